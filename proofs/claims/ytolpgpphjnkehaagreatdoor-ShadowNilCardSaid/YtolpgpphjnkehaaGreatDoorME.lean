/- Caches: contracts. -/
import Derived.Test.YtolpgpphjnkehaaGreatDoorMC
import Derived.Maps.OwnSet
import Derived.Maps.RangeWalk
import Derived.Deep.RegionWith
import Derived.Lib.SmallJoins
import Derived.Sort.OwnSortedInts
import Derived.Shelf.Sort.Plain
import Derived.Lib.OwnBridge
/- cache: a map from sectors to frames, in memory. -/
namespace Go.Proofs.YtolpgpphjnkehaaGreatDoor.Cac
set_option maxRecDepth 20000
open Go.RowKit Dsk

/-- How a pointer reads: the block that it points to. -/
def refD : Option Nat → DataW Unit
  | none => .lit (.int .i64 (-1))
  | some g => .lit (.int .i64 (g : Int))
theorem refD_inj {a b : Option Nat} (h : refD a = refD b) : a = b := by
  cases a with
  | none =>
    cases b with
    | none => rfl
    | some y =>
      have h : (DataW.lit (.int .i64 (-1)) : DataW Unit) = .lit (.int .i64 (y : Int)) := h
      simp only [DataW.lit.injEq, Lit.int.injEq, true_and] at h
      omega
  | some x =>
    cases b with
    | none =>
      have h : (DataW.lit (.int .i64 (x : Int)) : DataW Unit) = .lit (.int .i64 (-1)) := h
      simp only [DataW.lit.injEq, Lit.int.injEq, true_and] at h
      omega
    | some y =>
      have h : (DataW.lit (.int .i64 (x : Int)) : DataW Unit) = .lit (.int .i64 (y : Int)) := h
      simp only [DataW.lit.injEq, Lit.int.injEq, true_and] at h
      congr 1
      omega
def ptrR (v : Value) : Option (DataW Unit × List MemPlace) := match v with
  | .pointer none => some (refD none, [])
  | .pointer (some ⟨g, 0, none⟩) => some (refD (some g), [])
  | _ => none
def ptrV (o : Option Nat) : Value := .pointer (o.map fun g => ⟨g, 0, none⟩)
theorem ptrR_V (o : Option Nat) : ptrR (ptrV o) = some (refD o, []) := by cases o <;> rfl
theorem ptrR_inv {v : Value} {o : Option Nat} {ps : List MemPlace} (h : ptrR v = some (refD o, ps)) : v = ptrV o := by
  unfold ptrR at h
  split at h
  · injection h with h
    injection h with h1 h2
    rw [← refD_inj h1]; rfl
  · rename_i g
    injection h with h
    injection h with h1 h2
    rw [← refD_inj h1]; rfl
  · cases h
/-- Block b is a map of k entries that says S: which block a key has. -/
def PMap (w : World) (b n k : Nat) (S : Int → Option Nat) : Prop :=
  ∃ D : DataW Unit, w.ownsMap Tryz.prog 3 ptrR b n D ∧ Maps.size D = k ∧ ∀ i : Int, (Lit.int .i64 i).wf = true → D.atKey (.int .i64 i) (refD none) = refD (S i) ∧ Maps.has D (.int .i64 i) = (S i).isSome
theorem PMap.same {w w' : World} {b n k : Nat} {S : Int → Option Nat} (h : PMap w b n k S) (hb : w'.heap[b]? = w.heap[b]?) : PMap w' b n k S := by
  obtain ⟨D, ⟨es, clock, h1, h2⟩, h3⟩ := h
  exact ⟨D, ⟨es, clock, hb.trans h1, h2⟩, h3⟩
theorem PMap.lt {w : World} {b n k : Nat} {S : Int → Option Nat} (h : PMap w b n k S) : b < w.heap.size := by obtain ⟨D, h1, _⟩ := h; exact h1.lt
theorem PMap.le {w : World} {b n k : Nat} {S : Int → Option Nat} (h : PMap w b n k S) : k ≤ n := by obtain ⟨D, h1, h2, _⟩ := h; rw [← h2]; exact h1.size_le
theorem PMap.made (w : World) : PMap (w.alloc (.map #[] 0)) w.heap.size 0 0 (fun _ => none) := ⟨_, World.ownsMap_made w _ _ _, rfl, fun _ _ => ⟨rfl, rfl⟩⟩
theorem PMap.look {w : World} {b n k : Nat} {S : Int → Option Nat} (h : PMap w b n k S) (i : Int) (hi : (Lit.int .i64 i).wf = true) :
    (Instr.lookup 159 (.map (some b)) (.int .i64 i) false).run Tryz.prog w = .ok (ptrV (S i)) w := by
  obtain ⟨D, h1, _, h2⟩ := h
  have hz : (zeroValue 193).run Tryz.prog w = .ok (.pointer none) w := by kernel_rfl
  obtain ⟨v, ps, hr, hv⟩ := h1.lookup (Maps.int_keyed Tryz.underlying3) Tryz.underlying159 hz (zd := refD none) (zp := []) rfl (Maps.keyOf_int_mk Tryz.underlying3 hi)
  rw [(h2 i hi).1] at hv
  rw [ptrR_inv hv] at hr
  exact hr
theorem PMap.len {w : World} {b n k : Nat} {S : Int → Option Nat} (h : PMap w b n k S) (ty : TypeId) :
    (Builtin.len_ #[159] ty #[.map (some b)]).run Tryz.prog w = .ok (.int .i64 (k : Int)) w := by
  obtain ⟨D, h1, h2, _⟩ := h
  rw [← h2]
  exact h1.len Tryz.underlying159 ty
theorem PMap.put {w : World} {b n k : Nat} {S : Int → Option Nat} (h : PMap w b n k S) (i : Int) (g : Nat) (hi : (Lit.int .i64 i).wf = true) (hn : n < 1000000) :
    ∃ w', (Instr.mapUpdate 159 (.map (some b)) (.int .i64 i) (.pointer (some ⟨g, 0, none⟩))).run Tryz.prog w = .ok () w' ∧ PMap w' b (n + 1) (if (S i).isSome then k else k + 1) (fun j => if j = i then some g else S j) ∧ Off (fun k => k = b) w w' := by
  obtain ⟨D, h1, hs, h2⟩ := h
  obtain ⟨w', hr, h3, h4⟩ := h1.update (Maps.int_keyed Tryz.underlying3) Tryz.underlying159 (by unfold maxLen; omega) (Maps.keyOf_int_mk Tryz.underlying3 hi) (ptrR_V (some g))
  have hT := h1.tidy (Maps.int_keyed Tryz.underlying3)
  refine ⟨w', hr, ⟨_, h3, ?_, fun j hj => ?_⟩, (Off.of_grown h4).mono fun k _ e => by cases e; rfl⟩
  · rw [Maps.size_put hT, (h2 i hi).2, hs]
  · have hM : Maps.IsMap D := h1.isMap
    by_cases e : j = i
    · subst e
      dsimp only
      rw [if_pos rfl]
      exact ⟨Maps.atKey_put_same hM (by simp [WideAt.IsKeyLit]) _ _, Maps.has_put_same hM (by simp [WideAt.IsKeyLit]) _⟩
    · dsimp only
      rw [if_neg e]
      exact ⟨(Maps.atKey_put_other (by simpa using e) _ _).trans (h2 j hj).1, (Maps.has_put_other (by simpa using e) _).trans (h2 j hj).2⟩
theorem PMap.drop {w : World} {b n k : Nat} {S : Int → Option Nat} (h : PMap w b n k S) (i : Int) (hi : (Lit.int .i64 i).wf = true) (ty : TypeId) :
    ∃ w', (Builtin.delete_ #[159, 3] ty #[.map (some b), .int .i64 i]).run Tryz.prog w = .ok (.tuple #[]) w' ∧ PMap w' b n (if (S i).isSome then k - 1 else k) (fun j => if j = i then none else S j) ∧ Off (fun k => k = b) w w' := by
  obtain ⟨D, h1, hs, h2⟩ := h
  obtain ⟨w', hr, h3, h4⟩ := h1.drop (Maps.int_keyed Tryz.underlying3) Tryz.underlying159 (Maps.keyOf_int_mk Tryz.underlying3 hi) ty
  have hT := h1.tidy (Maps.int_keyed Tryz.underlying3)
  refine ⟨w', hr, ⟨_, h3, ?_, fun j hj => ?_⟩, ?_⟩
  · have := Maps.size_del (k := .int .i64 i) hT
    rw [(h2 i hi).2, hs] at this
    split
    · rename_i e
      rw [e] at this
      simp at this
      omega
    · rename_i e
      have e : (S i).isSome = false := by simpa using e
      rw [e] at this
      simpa using this
  · by_cases e : j = i
    · subst e
      dsimp only
      rw [if_pos rfl]
      exact ⟨Maps.atKey_del_same _, Maps.has_del_same⟩
    · dsimp only
      rw [if_neg e]
      exact ⟨(Maps.atKey_del_other (by simpa using e) _).trans (h2 j hj).1, (Maps.has_del_other (by simpa using e)).trans (h2 j hj).2⟩
  · exact (Off.of_grown (World.mapTurned.grown h4)).mono fun k _ e => by cases e; rfl
end Go.Proofs.YtolpgpphjnkehaaGreatDoor.Cac
/- cache: a cache in memory; what refuses; use; New. -/
namespace Go.Proofs.YtolpgpphjnkehaaGreatDoor.Cac
set_option maxRecDepth 20000
open Go.RowKit Dsk

/-- The head of a cache. -/
def CHead (w : World) (g dg mb most time : Nat) : Prop := Blk w g 162 #[.pointer (some ⟨dg, 0, none⟩), .int .i64 (most : Int), .map (some mb), .int .u64 (time : Int)]
theorem CHead.told {w : World} {g dg mb most time : Nat} (h : CHead w g dg mb most time) : w.cell? ⟨g, 0, none⟩ = some (.pointer (some ⟨dg, 0, none⟩)) ∧ w.cell? ⟨g, 1, none⟩ = some (.int .i64 (most : Int)) ∧ w.cell? ⟨g, 2, none⟩ = some (.map (some mb)) ∧ w.cell? ⟨g, 3, none⟩ = some (.int .u64 (time : Int)) ∧ (∀ i, w.frozen? ⟨g, i, none⟩ = false) :=
  ⟨Blk.cell h 0, Blk.cell h 1, Blk.cell h 2, Blk.cell h 3, Blk.frozen h⟩
def refC (D : DS) : Nat := if D.dead then 4 else 0
def refS (D : DS) (i : Int) : Nat := if D.dead then 4 else if i < 0 ∨ (D.S.length : Int) ≤ i then 1 else 0
theorem crefuses_nil (w : World) : Calls Tryz.prog 158 #[.pointer none] w fun e w' => e = .returned (.int .i64 2) ∧ w = w' := by
  go_enter Tryz.func158, Tryz.ntmps158
  go_wp2_with fail
  go_ret
  exact ⟨rfl, rfl⟩
theorem crefuses_any (g dg mb most time : Nat) (F : Nat → Prop) (D : DS) (w : World) (h : CHead w g dg mb most time) (hD : Disk w F dg D) :
    Calls Tryz.prog 158 #[.pointer (some ⟨g, 0, none⟩)] w fun e w' => e = .returned (.int .i64 (refC D : Int)) ∧ w = w' := by
  obtain ⟨c0, c1, c2, c3, _⟩ := h.told
  have H1 := hD.dead_
  obtain ⟨p, hp⟩ : ∃ p, D.dead = p := ⟨_, rfl⟩
  rw [hp] at H1
  have H1 := Lib.hid H1
  have HR : Hid (refC D = if p then 4 else 0) := Lib.hid (by unfold refC; rw [hp])
  clear h hD hp
  go_enter Tryz.func158, Tryz.ntmps158
  go_wp2_with fail
  refine H1.out.mono ?_
  rintro e w' ⟨rfl, rfl⟩
  cases p with
  | true =>
    go_wp2_with fail
    go_ret
    rw [HR.out]
    exact ⟨rfl, rfl⟩
  | false =>
    go_wp2_with fail
    go_ret
    rw [HR.out]
    exact ⟨rfl, rfl⟩
theorem crefusesS_nil (i : Int) (w : World) : Calls Tryz.prog 144 #[.pointer none, .int .i64 i] w fun e w' => e = .returned (.int .i64 2) ∧ w = w' := by
  have H1 := Lib.hid (crefuses_nil w)
  go_enter Tryz.func144, Tryz.ntmps144
  go_wp2_with fail
  refine H1.out.mono ?_
  rintro e w' ⟨rfl, rfl⟩
  go_wp2_with fail
  go_ret
  exact ⟨rfl, rfl⟩
theorem crefusesS_any (g dg mb most time : Nat) (i : Int) (F : Nat → Prop) (D : DS) (w : World) (h : CHead w g dg mb most time) (hD : Disk w F dg D) :
    Calls Tryz.prog 144 #[.pointer (some ⟨g, 0, none⟩), .int .i64 i] w fun e w' => e = .returned (.int .i64 (refS D i : Int)) ∧ w = w' := by
  obtain ⟨c0, c1, c2, c3, _⟩ := h.told
  have H1 := crefuses_any g dg mb most time F D w h hD
  have H2 := hD.sectors_
  obtain ⟨p, hp⟩ : ∃ p, D.dead = p := ⟨_, rfl⟩
  obtain ⟨n, hn⟩ : ∃ n, D.S.length = n := ⟨_, rfl⟩
  unfold refC at H1
  rw [hp] at H1
  rw [hn] at H2
  have HR : Hid (refS D i = if p then 4 else if i < 0 ∨ (n : Int) ≤ i then 1 else 0) := Lib.hid (by unfold refS; rw [hp, hn])
  have H2 := Lib.hid H2
  clear h hD hp hn
  cases p with
  | true =>
    replace H1 := Lib.hid (show Calls Tryz.prog 158 #[.pointer (some ⟨g, 0, none⟩)] w fun e w' => e = .returned (.int .i64 4) ∧ w = w' from H1)
    go_enter Tryz.func144, Tryz.ntmps144
    go_wp2_with fail
    refine H1.out.mono ?_
    rintro e w' ⟨rfl, rfl⟩
    go_wp2_with fail
    go_ret
    rw [HR.out]
    exact ⟨rfl, rfl⟩
  | false =>
    replace H1 := Lib.hid (show Calls Tryz.prog 158 #[.pointer (some ⟨g, 0, none⟩)] w fun e w' => e = .returned (.int .i64 0) ∧ w = w' from H1)
    by_cases hi : i < 0
    · have hd : decide (i < 0) = true := by simpa using hi
      have HR2 : Hid (refS D i = 1) := Lib.hid (by rw [HR.out, if_neg (by decide), if_pos (.inl hi)])
      clear HR hi
      go_enter Tryz.func144, Tryz.ntmps144
      go_wp2_with fail
      refine H1.out.mono ?_
      rintro e w' ⟨rfl, rfl⟩
      go_wp2_with fail
      go_ret
      rw [HR2.out]
      exact ⟨rfl, rfl⟩
    · have hd : decide (i < 0) = false := by simpa using hi
      by_cases h2 : (n : Int) ≤ i
      · have hd2 : decide (i ≥ (n : Int)) = true := by simpa using h2
        have HR2 : Hid (refS D i = 1) := Lib.hid (by rw [HR.out, if_neg (by decide), if_pos (.inr h2)])
        clear HR hi h2
        go_enter Tryz.func144, Tryz.ntmps144
        go_wp2_with fail
        refine H1.out.mono ?_
        rintro e w' ⟨rfl, rfl⟩
        go_wp2_with fail
        refine H2.out.mono ?_
        rintro e w' ⟨rfl, rfl⟩
        go_wp2_with fail
        go_ret
        rw [HR2.out]
        exact ⟨rfl, rfl⟩
      · have hd2 : decide (i ≥ (n : Int)) = false := by simpa using h2
        have HR2 : Hid (refS D i = 0) := Lib.hid (by rw [HR.out, if_neg (by decide), if_neg (fun h => by rcases h with h | h; exact hi h; exact h2 h)])
        clear HR hi h2
        go_enter Tryz.func144, Tryz.ntmps144
        go_wp2_with fail
        refine H1.out.mono ?_
        rintro e w' ⟨rfl, rfl⟩
        go_wp2_with fail
        refine H2.out.mono ?_
        rintro e w' ⟨rfl, rfl⟩
        go_wp2_with fail
        go_ret
        rw [HR2.out]
        exact ⟨rfl, rfl⟩
end Go.Proofs.YtolpgpphjnkehaaGreatDoor.Cac
/- cache: New; use; a frame. -/
namespace Go.Proofs.YtolpgpphjnkehaaGreatDoor.Cac
set_option maxRecDepth 20000
open Go.RowKit Dsk

theorem cnew_nil (k : Int) (w : World) : Calls Tryz.prog 59 #[.pointer none, .int .i64 k] w fun e w' => e = .returned (.tuple #[.pointer none, .int .i64 2]) ∧ w = w' := by
  go_enter Tryz.func59, Tryz.ntmps59
  go_wp2_with fail
  go_ret2
  exact ⟨rfl, rfl⟩
theorem cnew_dead (dg : Nat) (F : Nat → Prop) (D : DS) (k : Int) (w : World) (hD : Disk w F dg D) (hd : D.dead = true) :
    Calls Tryz.prog 59 #[.pointer (some ⟨dg, 0, none⟩), .int .i64 k] w fun e w' => e = .returned (.tuple #[.pointer none, .int .i64 4]) ∧ w = w' := by
  have H1 := hD.dead_
  rw [hd] at H1
  replace H1 := Lib.hid H1
  clear hD hd
  go_enter Tryz.func59, Tryz.ntmps59
  go_wp2_with fail
  refine H1.out.mono ?_
  rintro e w' ⟨rfl, rfl⟩
  go_wp2_with fail
  go_ret2
  exact ⟨rfl, rfl⟩
theorem cnew_arg (dg : Nat) (F : Nat → Prop) (D : DS) (k : Int) (w : World) (hD : Disk w F dg D) (hd : D.dead = false) (hk : k < 1 ∨ 1024 < k) :
    Calls Tryz.prog 59 #[.pointer (some ⟨dg, 0, none⟩), .int .i64 k] w fun e w' => e = .returned (.tuple #[.pointer none, .int .i64 1]) ∧ w = w' := by
  have H1 := hD.dead_
  rw [hd] at H1
  replace H1 := Lib.hid H1
  clear hD hd
  by_cases h1 : k < 1
  · have d1 : decide (k < 1) = true := by simpa using h1
    clear hk h1
    go_enter Tryz.func59, Tryz.ntmps59
    go_wp2_with fail
    refine H1.out.mono ?_
    rintro e w' ⟨rfl, rfl⟩
    go_wp2_with fail
    go_ret2
    exact ⟨rfl, rfl⟩
  · have d1 : decide (k < 1) = false := by simpa using h1
    have d2 : decide (k > 1024) = true := by simp; omega
    clear hk h1
    go_enter Tryz.func59, Tryz.ntmps59
    go_wp2_with fail
    refine H1.out.mono ?_
    rintro e w' ⟨rfl, rfl⟩
    go_wp2_with fail
    go_ret2
    exact ⟨rfl, rfl⟩
theorem cnew_ok (dg : Nat) (F : Nat → Prop) (D : DS) (k : Nat) (w : World) (hD : Disk w F dg D) (hd : D.dead = false) (hk : 1 ≤ k ∧ k ≤ 1024) :
    Calls Tryz.prog 59 #[.pointer (some ⟨dg, 0, none⟩), .int .i64 (k : Int)] w fun e w' => e = .returned (.tuple #[.pointer (some ⟨w.heap.size + 1, 0, none⟩), .int .i64 0]) ∧ CHead w' (w.heap.size + 1) dg w.heap.size k 0 ∧ PMap w' w.heap.size 0 0 (fun _ => none) ∧ Below w.heap.size w w' := by
  have H1 := hD.dead_
  rw [hd] at H1
  replace H1 := Lib.hid H1
  clear hD hd
  have d1 : decide ((k : Int) < 1) = false := by simp; omega
  have d2 : decide ((k : Int) > 1024) = false := by simp; omega
  have hmm := @run_makeMap Tryz.prog
  obtain ⟨w1, hw1⟩ : ∃ w1, w.alloc (.map #[] 0) = w1 := ⟨_, rfl⟩
  have hM : PMap w1 w.heap.size 0 0 (fun _ => none) := by rw [← hw1]; exact PMap.made w
  have hs1 : w1.heap.size = w.heap.size + 1 := by rw [← hw1]; simp
  have hb1 : Below w.heap.size w w1 := by rw [← hw1]; exact (Below.refl _ _).alloc (Nat.le_refl _) _
  obtain ⟨w2, hw2⟩ : ∃ w2, w1.alloc (.cells #[.pointer (some ⟨dg, 0, none⟩), .int .i64 (k : Int), .map (some w.heap.size), .int .u64 0] 162) = w2 := ⟨_, rfl⟩
  have hC : CHead w2 (w.heap.size + 1) dg w.heap.size k 0 := by rw [← hw2, ← hs1]; exact Blk.new _ _ _
  have hM2 : PMap w2 w.heap.size 0 0 (fun _ => none) := hM.same (by rw [← hw2]; exact Below.heap_alloc w1 _ _ (by omega))
  have hb2 : Below w.heap.size w w2 := by rw [← hw2]; exact hb1.alloc (by omega) _
  have HO := Lib.hid (And.intro hC (And.intro hM2 hb2))
  clear hM hb1 hC hM2 hb2 hk
  go_enter Tryz.func59, Tryz.ntmps59
  go_wp2_with fail
  refine H1.out.mono ?_
  rintro e w' ⟨rfl, rfl⟩
  go_wp2_with fail
  go_ret2
  exact ⟨by first | rfl | rw [hs1], HO.out⟩
/-- A frame in memory. -/
def Frm (w : World) (f : Nat) (v : Value) (dirty : Bool) (pins used : Nat) : Prop := Blk w f 197 #[v, .bool dirty, .int .i64 (pins : Int), .int .u64 (used : Int)]
theorem Frm.told {w : World} {f : Nat} {v : Value} {dirty : Bool} {pins used : Nat} (h : Frm w f v dirty pins used) : w.cell? ⟨f, 0, none⟩ = some v ∧ w.cell? ⟨f, 1, none⟩ = some (.bool dirty) ∧ w.cell? ⟨f, 2, none⟩ = some (.int .i64 (pins : Int)) ∧ w.cell? ⟨f, 3, none⟩ = some (.int .u64 (used : Int)) ∧ (∀ i, w.frozen? ⟨f, i, none⟩ = false) :=
  ⟨Blk.cell h 0, Blk.cell h 1, Blk.cell h 2, Blk.cell h 3, Blk.frozen h⟩
theorem cuse_any (g dg mb most time f pins used : Nat) (v : Value) (dirty : Bool) (w : World) (h : CHead w g dg mb most time) (hF : Frm w f v dirty pins used) (hne : g ≠ f) (ht : time < 1000000000) :
    Calls Tryz.prog 156 #[.pointer (some ⟨g, 0, none⟩), .pointer (some ⟨f, 0, none⟩)] w fun e w' => e = .returned (.tuple #[]) ∧ CHead w' g dg mb most (time + 1) ∧ Frm w' f v dirty pins (time + 1) ∧ Off (fun k => k = g ∨ k = f) w w' ∧ w'.heap.size = w.heap.size := by
  obtain ⟨c0, c1, c2, c3, cf⟩ := h.told
  obtain ⟨w1, hw1⟩ : ∃ w1, w.setCell ⟨g, 3, none⟩ (.int .u64 ((time + 1 : Nat) : Int)) = w1 := ⟨_, rfl⟩
  have h1 : CHead w1 g dg mb most (time + 1) := by rw [← hw1]; exact Blk.set_ h 3 _
  have hF1 : Frm w1 f v dirty pins used := by rw [← hw1]; exact Blk.far hF (p := ⟨g, 3, none⟩) (fun e => hne e.symm) _
  obtain ⟨w2, hw2⟩ : ∃ w2, w1.setCell ⟨f, 3, none⟩ (.int .u64 ((time + 1 : Nat) : Int)) = w2 := ⟨_, rfl⟩
  have h2 : CHead w2 g dg mb most (time + 1) := by rw [← hw2]; exact Blk.far h1 (p := ⟨f, 3, none⟩) hne _
  have hF2 : Frm w2 f v dirty pins (time + 1) := by rw [← hw2]; exact Blk.set_ hF1 3 _
  have ho : Off (fun k => k = g ∨ k = f) w w2 := by
    rw [← hw2, ← hw1]
    exact ((Off.setc _ _ _ _).mono (fun k _ e => .inl e)).trans ((Off.setc _ _ _ _).mono (fun k _ e => .inr e))
  have hs : w2.heap.size = w.heap.size := by rw [← hw2, ← hw1]; simp [World.setCell]
  obtain ⟨d0, d1, d2, d3, df⟩ := h1.told
  obtain ⟨f0, f1, f2, f3, ff⟩ := hF1.told
  have HO := Lib.hid (And.intro h2 (And.intro hF2 (And.intro ho hs)))
  have hwt : IntKind.u64.wrap ((time : Int) + 1) = ((time + 1 : Nat) : Int) := by rw [show (time : Int) + 1 = ((time + 1 : Nat) : Int) by omega]; exact IntWalk.u64_in _ (by omega)
  obtain ⟨t1, ht1⟩ : ∃ t1, time + 1 = t1 := ⟨_, rfl⟩
  rw [ht1] at hw1 hw2 d3 HO hwt
  clear h hF h1 hF1 h2 hF2 ho hs
  go_enter Tryz.func156, Tryz.ntmps156
  go_wp2_with fail
  go_end0
  exact ⟨rfl, by rw [ht1]; exact HO.out⟩
end Go.Proofs.YtolpgpphjnkehaaGreatDoor.Cac
/- cache: all of a cache in memory; Held. -/
namespace Go.Proofs.YtolpgpphjnkehaaGreatDoor.Cac
set_option maxRecDepth 20000
open Go.RowKit Dsk

/-- The step of a range over a map of pointers. -/
theorem next_ptr (w : World) {ops : Array Oper} {rest : List Oper} {o : Oper} {a : Act} {Q : Exit → Act → World → Prop} (hg : o.guard = none) (it : Operand) (hop : o.op = Op.next it false) (S : Int → Option Nat)
    (b r n : Nat) (D : DataW Unit) (left : Lit → Bool) (cnt : Nat) (hS : ∀ i : Int, (Lit.int .i64 i).wf = true → D.atKey (.int .i64 i) (refD none) = refD (S i) ∧ Maps.has D (.int .i64 i) = (S i).isSome) (hsub : ∀ z, left z = true → Maps.has D z = true)
    (hit : a.eval it = .pointer (some ⟨r, 0, none⟩)) (h : w.ranges Tryz.prog 3 ptrR b r n D left cnt)
    (hDone : cnt = 0 → (∀ kl, left kl = false) → wpList Tryz.prog ops Q rest (a.put o.dst (.tuple #[.bool false])) w)
    (hMore : ∀ (x : Int) (f : Nat) (w' : World) (cnt' : Nat), (Lit.int .i64 x).wf = true → left (.int .i64 x) = true → S x = some f → w'.ranges Tryz.prog 3 ptrR b r n D (fun z => left z && !z.sameKey (.int .i64 x)) cnt' → cnt' < cnt →
      w.grownBy w' (some r) → w'.heap.size = w.heap.size → (Instr.entry (.pointer (some ⟨r, 0, none⟩))).run Tryz.prog w' = .ok (.tuple #[.int .i64 x, .pointer (some ⟨f, 0, none⟩)]) w' → wpList Tryz.prog ops Q rest (a.put o.dst (.tuple #[.bool true, .int .i64 x, .pointer (some ⟨f, 0, none⟩)])) w') :
    wpList Tryz.prog ops Q (o :: rest) a w :=
  wpList_next_ranges w hg it hop 3 (Maps.int_keyed Tryz.underlying3) ptrR (Value.int .i64) ptrV (fun key kl hkey => by obtain ⟨x, rfl, _⟩ := Maps.keyOf_int_inv Tryz.underlying3 hkey; exact ⟨x, rfl⟩)
    (fun v y hv => by
      unfold ptrR at hv
      split at hv
      · exact ⟨none, rfl⟩
      · exact ⟨some _, rfl⟩
      · cases hv)
    b r n D left cnt hit h hDone (fun x c kl y w' cnt' hkey hlk hv hat hrg hlt hgr hsz hen => by
      obtain ⟨x', ex, rfl, hwx⟩ := Maps.keyOf_int_inv Tryz.underlying3 hkey
      cases ex
      rw [ptrR_V] at hv
      injection hv with hv
      subst hv
      obtain ⟨h1, h2⟩ := hS x hwx
      rw [hat] at h1
      have hc : c = S x := refD_inj h1
      rw [hsub _ hlk] at h2
      cases c with
      | none => rw [← hc] at h2; cases h2
      | some f => exact hMore x f w' cnt' hwx hlk hc.symm hrg hlt hgr hsz hen)
structure Fr where
  s : Nat
  b : List UInt8
  dirty : Bool
  pins : Nat
  used : Nat
/-- Which block the frame of a sector has. -/
def atS (B : Nat → Nat) (L : List Fr) (i : Int) : Option Nat := (L.find? fun x => (x.s : Int) == i).map fun x => B x.s
/-- A cache in memory: its frames L, whose blocks are B's, their bytes in blocks of E. -/
structure Cm (w : World) (E : Nat → Prop) (g dg mb n : Nat) (B : Nat → Nat) (most time : Nat) (L : List Fr) : Prop where
  head : CHead w g dg mb most time
  map : PMap w mb n L.length (atS B L)
  frm : ∀ x ∈ L, ∃ v, Frm w (B x.s) v x.dirty x.pins x.used ∧ Sec w E v x.b
  secs : ∀ x ∈ L, x.b.length = 256 ∧ x.s < 1000000 ∧ x.pins < 1000000000
  nodup : L.Pairwise fun x y => x.s ≠ y.s
  inj : ∀ x ∈ L, ∀ y ∈ L, B x.s = B y.s → x.s = y.s
  apart : ∀ x ∈ L, B x.s ≠ g ∧ B x.s ≠ mb ∧ ¬ E (B x.s)
  e1 : ¬ E g
  e2 : ¬ E mb
  ne : g ≠ mb
theorem Cm.below {w w' : World} {E : Nat → Prop} {g dg mb n most time : Nat} {B : Nat → Nat} {L : List Fr} (h : Cm w E g dg mb n B most time L) (hb : Below w.heap.size w w') : Cm w' E g dg mb n B most time L :=
  ⟨Blk.below h.head hb (Blk.lt h.head), h.map.same (hb.block _ h.map.lt), fun x hx => by
    obtain ⟨v, h1, h2⟩ := h.frm x hx
    exact ⟨v, Blk.below h1 hb (Blk.lt h1), h2.same hb.size (fun k _ hk => hb.block k hk)⟩, h.secs, h.nodup, h.inj, h.apart, h.e1, h.e2, h.ne⟩
theorem atS_some {B : Nat → Nat} {L : List Fr} {i : Int} {f : Nat} (h : atS B L i = some f) : ∃ x ∈ L, (x.s : Int) = i ∧ B x.s = f := by
  unfold atS at h
  obtain ⟨x, hx, hf⟩ := Option.map_eq_some_iff.1 h
  exact ⟨x, List.mem_of_find?_eq_some hx, by have := List.find?_some hx; simpa using this, hf⟩
theorem same_int {a b : Int} : (Lit.int .i64 a).sameKey (.int .i64 b) = decide (a = b) := by
  by_cases h : a = b
  · subst h
    rw [WideAt.sameKey_self (by simp [WideAt.IsKeyLit])]
    simp
  · cases hh : (Lit.int .i64 a).sameKey (.int .i64 b) with
    | false => simp [h]
    | true =>
      have := WideAt.sameKey_eq hh
      simp at this
      exact absurd this h
/-- How many frames of which p holds have come. -/
def came (p : Fr → Bool) (left : Lit → Bool) (L : List Fr) : Nat := L.countP fun x => p x && !left (.int .i64 (x.s : Int))
theorem came_far (p : Fr → Bool) (left : Lit → Bool) (s : Nat) : ∀ L : List Fr, (∀ x ∈ L, x.s ≠ s) → came p (fun z => left z && !z.sameKey (.int .i64 (s : Int))) L = came p left L
  | [], _ => rfl
  | y :: L, h => by
    have hy := h y (List.mem_cons_self ..)
    have ih := came_far p left s L (fun x hx => h x (List.mem_cons_of_mem _ hx))
    unfold came at ih ⊢
    rw [List.countP_cons, List.countP_cons, ih]
    have : (Lit.int .i64 (y.s : Int)).sameKey (.int .i64 (s : Int)) = false := by rw [same_int]; simp; omega
    simp [this]
theorem came_step (p : Fr → Bool) (left : Lit → Bool) (x0 : Fr) : ∀ L : List Fr, L.Pairwise (fun x y => x.s ≠ y.s) → x0 ∈ L → left (.int .i64 (x0.s : Int)) = true →
    came p (fun z => left z && !z.sameKey (.int .i64 (x0.s : Int))) L = came p left L + (if p x0 then 1 else 0)
  | [], _, h, _ => by cases h
  | y :: L, hp, h, hl => by
    obtain ⟨h1, h2⟩ := List.pairwise_cons.1 hp
    rcases List.mem_cons.1 h with rfl | h
    · have ih := came_far p left x0.s L (fun x hx => (h1 x hx).symm)
      unfold came at ih ⊢
      rw [List.countP_cons, List.countP_cons, ih]
      simp only [same_int, hl]
      cases p x0 <;> simp
    · have ih := came_step p left x0 L h2 h hl
      have hy := h1 x0 h
      have : (Lit.int .i64 (y.s : Int)).sameKey (.int .i64 (x0.s : Int)) = false := by rw [same_int]; simp; omega
      unfold came at ih ⊢
      rw [List.countP_cons, List.countP_cons, ih]
      simp only [this, Bool.not_false, Bool.and_true]
      omega
theorem came_all (p : Fr → Bool) (left : Lit → Bool) (L : List Fr) (h : ∀ z, left z = false) : came p left L = L.countP p := by
  unfold came
  congr 1
  funext x
  rw [h]; simp
theorem came_none (p : Fr → Bool) (left : Lit → Bool) (L : List Fr) (h : ∀ x ∈ L, left (.int .i64 (x.s : Int)) = true) : came p left L = 0 := by
  unfold came
  rw [List.countP_eq_zero]
  intro x hx
  rw [h x hx]; simp
end Go.Proofs.YtolpgpphjnkehaaGreatDoor.Cac
/- cache: a frame turned, a frame gone; Unpin, Drop. -/
namespace Go.Proofs.YtolpgpphjnkehaaGreatDoor.Cac
set_option maxRecDepth 20000
open Go.RowKit Dsk

def updL (y : Fr) (L : List Fr) : List Fr := L.map fun x => if x.s = y.s then y else x
theorem updL_s (y x : Fr) : (if x.s = y.s then y else x).s = x.s := by
  split
  · rename_i h; exact h.symm
  · rfl
theorem updL_mem {y x : Fr} {L : List Fr} (h : x ∈ updL y L) : (x = y ∧ ∃ z ∈ L, z.s = y.s) ∨ (x ∈ L ∧ x.s ≠ y.s) := by
  obtain ⟨z, hz, rfl⟩ := List.mem_map.1 h
  by_cases e : z.s = y.s
  · rw [if_pos e]; exact .inl ⟨rfl, z, hz, e⟩
  · rw [if_neg e]; exact .inr ⟨hz, e⟩
theorem updL_len (y : Fr) (L : List Fr) : (updL y L).length = L.length := by unfold updL; simp
theorem atS_upd (B : Nat → Nat) (y : Fr) (L : List Fr) : atS B (updL y L) = atS B L := by
  funext i
  unfold atS updL
  rw [List.find?_map, Option.map_map]
  have e1 : ((fun x : Fr => (x.s : Int) == i) ∘ fun x => if x.s = y.s then y else x) = fun x => (x.s : Int) == i := by
    funext x
    show ((((if x.s = y.s then y else x).s : Nat) : Int) == i) = _
    rw [updL_s]
  have e2 : ((fun x : Fr => B x.s) ∘ fun x => if x.s = y.s then y else x) = fun x => B x.s := by
    funext x
    show B (if x.s = y.s then y else x).s = _
    rw [updL_s]
  rw [e1, e2]
theorem Cm.upd {w w' : World} {E : Nat → Prop} {g dg mb n most time time' : Nat} {B : Nat → Nat} {L : List Fr} (h : Cm w E g dg mb n B most time L) (y : Fr) (v : Value) (hy : ∃ x ∈ L, x.s = y.s)
    (ho : Off (fun k => k = B y.s ∨ k = g) w w') (hh : CHead w' g dg mb most time') (hf : Frm w' (B y.s) v y.dirty y.pins y.used) (hv : Sec w' (grow E w w') v y.b) (hb : y.b.length = 256 ∧ y.pins < 1000000000) :
    Cm w' (grow E w w') g dg mb n B most time' (updL y L) := by
  obtain ⟨x0, hx0, hs0⟩ := hy
  have hap := h.apart x0 hx0
  rw [hs0] at hap
  have hlt : ∀ x ∈ L, B x.s < w.heap.size := fun x hx => by obtain ⟨v, h1, _⟩ := h.frm x hx; exact Blk.lt h1
  have hgl := Blk.lt h.head
  refine ⟨hh, ?_, fun x hx => ?_, fun x hx => ?_, ?_, fun x hx z hz e => ?_, fun x hx => ?_, ?_, ?_, h.ne⟩
  · rw [updL_len, atS_upd]
    exact h.map.same (ho.block mb h.map.lt (fun e => by rcases e with e | e; exact hap.2.1 e.symm; exact h.ne e.symm))
  · rcases updL_mem hx with ⟨rfl, _⟩ | ⟨hx, hne⟩
    · exact ⟨v, hf, hv⟩
    · obtain ⟨u, h1, h2⟩ := h.frm x hx
      refine ⟨u, Blk.same h1 (ho.block _ (hlt x hx) (fun e => by
        rcases e with e | e
        · exact hne ((h.inj x hx x0 hx0 (by rw [hs0]; exact e)).trans hs0)
        · exact (h.apart x hx).1 e)), ?_⟩
      exact (h2.same ho.size (fun k hk hl => ho.block k hl (fun e => by
        rcases e with e | e
        · exact hap.2.2 (e ▸ hk)
        · exact h.e1 (e ▸ hk)))).mono (fun k hk => grow.old hk)
  · rcases updL_mem hx with ⟨rfl, z, hz, e⟩ | ⟨hx, _⟩
    · exact ⟨hb.1, by rw [← e]; exact (h.secs z hz).2.1, hb.2⟩
    · exact h.secs x hx
  · unfold updL
    rw [List.pairwise_map]
    exact h.nodup.imp fun {a b} hab => by rw [updL_s, updL_s]; exact hab
  · have key : ∀ x ∈ updL y L, ∃ x' ∈ L, x'.s = x.s := fun x hx => by
      rcases updL_mem hx with ⟨rfl, z, hz, e⟩ | ⟨hx, _⟩
      · exact ⟨z, hz, e⟩
      · exact ⟨x, hx, rfl⟩
    obtain ⟨x', hx', ex⟩ := key x hx
    obtain ⟨z', hz', ez⟩ := key z hz
    rw [← ex, ← ez]
    exact h.inj x' hx' z' hz' (by rw [ex, ez]; exact e)
  · have key : ∃ x' ∈ L, x'.s = x.s := by
      rcases updL_mem hx with ⟨rfl, z, hz, e⟩ | ⟨hx, _⟩
      · exact ⟨z, hz, e⟩
      · exact ⟨x, hx, rfl⟩
    obtain ⟨x', hx', ex⟩ := key
    rw [← ex]
    refine ⟨(h.apart x' hx').1, (h.apart x' hx').2.1, fun e => ?_⟩
    rcases e with e | ⟨e, _⟩
    · exact (h.apart x' hx').2.2 e
    · have := hlt x' hx'; omega
  · intro e
    rcases e with e | ⟨e, _⟩
    · exact h.e1 e
    · omega
  · intro e
    rcases e with e | ⟨e, _⟩
    · exact h.e2 e
    · have := h.map.lt; omega
/-- A frame gone. -/
def delL (s : Nat) (L : List Fr) : List Fr := L.filter fun x => decide (x.s ≠ s)
theorem atS_del (B : Nat → Nat) (s : Nat) (L : List Fr) : (fun j : Int => if j = (s : Int) then none else atS B L j) = atS B (delL s L) := by
  funext j
  unfold atS delL
  rw [List.find?_filter]
  by_cases e : j = (s : Int)
  · rw [if_pos e]
    have : L.find? (fun a => decide (decide (a.s ≠ s) = true ∧ ((a.s : Int) == j) = true)) = none := by
      rw [List.find?_eq_none]
      intro x _ hx
      have hx := of_decide_eq_true hx
      simp at hx
      omega
    rw [this]; rfl
  · rw [if_neg e]
    congr 2
    funext a
    rw [Bool.eq_iff_iff, decide_eq_true_iff]
    by_cases ha : (a.s : Int) = j
    · have : a.s ≠ s := by omega
      simp [ha, this]
    · have : ((a.s : Int) == j) = false := by simpa using ha
      simp [this]
theorem delL_len {s : Nat} : ∀ {L : List Fr}, L.Pairwise (fun x y => x.s ≠ y.s) → (∃ x ∈ L, x.s = s) → (delL s L).length = L.length - 1
  | [], _, h => by obtain ⟨x, hx, _⟩ := h; cases hx
  | y :: L, hp, h => by
    obtain ⟨h1, h2⟩ := List.pairwise_cons.1 hp
    unfold delL
    by_cases e : y.s = s
    · have : (y :: L).filter (fun x => decide (x.s ≠ s)) = L := by
        rw [List.filter_cons, if_neg (by simp [e]), List.filter_eq_self.2 (fun x hx => by have := h1 x hx; simp; omega)]
      rw [this]; simp
    · have : (y :: L).filter (fun x => decide (x.s ≠ s)) = y :: L.filter (fun x => decide (x.s ≠ s)) := by rw [List.filter_cons, if_pos (by simpa using e)]
      rw [this]
      obtain ⟨x, hx, hxs⟩ := h
      have hxL : x ∈ L := by
        rcases List.mem_cons.1 hx with rfl | hx
        · exact absurd hxs e
        · exact hx
      have ih := delL_len h2 ⟨x, hxL, hxs⟩
      unfold delL at ih
      have := List.length_pos_of_mem hxL
      rw [List.length_cons, List.length_cons, ih]
      omega
theorem Cm.del {w w' : World} {E : Nat → Prop} {g dg mb n most time : Nat} {B : Nat → Nat} {L : List Fr} (h : Cm w E g dg mb n B most time L) (s : Nat) (hs : ∃ x ∈ L, x.s = s)
    (hm : PMap w' mb n (if (atS B L (s : Int)).isSome then L.length - 1 else L.length) (fun j => if j = (s : Int) then none else atS B L j)) (ho : Off (fun k => k = mb) w w') : Cm w' E g dg mb n B most time (delL s L) := by
  have hsub : ∀ x ∈ delL s L, x ∈ L := fun x hx => (List.mem_filter.1 hx).1
  have hsome : (atS B L (s : Int)).isSome = true := by
    unfold atS
    rw [Option.isSome_map, List.find?_isSome]
    obtain ⟨x, hx, e⟩ := hs
    exact ⟨x, hx, by simp [e]⟩
  rw [hsome, if_pos rfl, ← delL_len h.nodup hs, atS_del] at hm
  refine ⟨Blk.same h.head (ho.block g (Blk.lt h.head) h.ne), hm, fun x hx => ?_, fun x hx => h.secs x (hsub x hx), h.nodup.filter _, fun x hx y hy e => h.inj x (hsub x hx) y (hsub y hy) e, fun x hx => h.apart x (hsub x hx), h.e1, h.e2, h.ne⟩
  obtain ⟨v, h1, h2⟩ := h.frm x (hsub x hx)
  exact ⟨v, Blk.same h1 (ho.block _ (Blk.lt h1) (h.apart x (hsub x hx)).2.1), h2.same ho.size (fun k hk hl => ho.block k hl (fun e => h.e2 (e ▸ hk)))⟩
end Go.Proofs.YtolpgpphjnkehaaGreatDoor.Cac
/- cache: Unpin, Drop. -/
namespace Go.Proofs.YtolpgpphjnkehaaGreatDoor.Cac
set_option maxRecDepth 20000
open Go.RowKit Dsk

theorem atS_of {B : Nat → Nat} {L : List Fr} {x : Fr} (hx : x ∈ L) : atS B L (x.s : Int) = some (B x.s) := by
  unfold atS
  cases hh : L.find? (fun y => (y.s : Int) == (x.s : Int)) with
  | none =>
    rw [List.find?_eq_none] at hh
    exact absurd (by simp) (hh x hx)
  | some y =>
    have h1 := List.find?_some hh
    have h2 : (y.s : Int) = (x.s : Int) := by simpa using h1
    have h2 : y.s = x.s := by omega
    rw [Option.map_some, h2]
/-- What is told of a cache that is on, at a sector that a frame has. -/
theorem Cm.look_yes {w : World} {E : Nat → Prop} {g dg mb n most time : Nat} {B : Nat → Nat} {L : List Fr} (h : Cm w E g dg mb n B most time L) {x : Fr} (hx : x ∈ L) : (Instr.lookup 159 (.map (some mb)) (.int .i64 (x.s : Int)) false).run Tryz.prog w = .ok (.pointer (some ⟨B x.s, 0, none⟩)) w := by
  have := h.map.look (x.s : Int) (WalkArith.wf_i64 (by have := (h.secs x hx).2.1; omega))
  rw [atS_of hx] at this
  exact this
theorem Cm.look_no {w : World} {E : Nat → Prop} {g dg mb n most time : Nat} {B : Nat → Nat} {L : List Fr} (h : Cm w E g dg mb n B most time L) {i : Int} (hi : (Lit.int .i64 i).wf = true) (hx : atS B L i = none) : (Instr.lookup 159 (.map (some mb)) (.int .i64 i) false).run Tryz.prog w = .ok (.pointer none) w := by
  have := h.map.look i hi
  rw [hx] at this
  exact this
section
variable {w : World} {E F : Nat → Prop} {g dg mb n most time : Nat} {B : Nat → Nat} {L : List Fr} {D : DS}
theorem Cm.alive (h : Cm w E g dg mb n B most time L) (hD : Disk w F dg D) (hd : D.dead = false) : Calls Tryz.prog 158 #[.pointer (some ⟨g, 0, none⟩)] w fun e w' => e = .returned (.int .i64 0) ∧ w = w' := by
  have := crefuses_any g dg mb most time F D w h.head hD
  unfold refC at this
  rw [hd] at this
  exact this
theorem drop_no (h : Cm w E g dg mb n B most time L) (hD : Disk w F dg D) (hd : D.dead = false) {i : Int} (hi : (Lit.int .i64 i).wf = true) (hx : atS B L i = none) :
    Calls Tryz.prog 106 #[.pointer (some ⟨g, 0, none⟩), .int .i64 i] w fun e w' => e = .returned (.int .i64 7) ∧ w = w' := by
  have H1 := Lib.hid (h.alive hD hd)
  have hl := h.look_no hi hx
  obtain ⟨c0, c1, c2, c3, _⟩ := h.head.told
  clear h hD hd hx hi
  go_enter Tryz.func106, Tryz.ntmps106
  go_wp2_with fail
  refine H1.out.mono ?_
  rintro e w' ⟨rfl, rfl⟩
  go_wp2_with fail
  go_ret
  exact ⟨rfl, rfl⟩
set_option maxRecDepth 20000 in
theorem drop_pinned (h : Cm w E g dg mb n B most time L) (hD : Disk w F dg D) (hd : D.dead = false) {x : Fr} (hx : x ∈ L) (hp : 0 < x.pins) :
    Calls Tryz.prog 106 #[.pointer (some ⟨g, 0, none⟩), .int .i64 (x.s : Int)] w fun e w' => e = .returned (.int .i64 3) ∧ w = w' := by
  have H1 := Lib.hid (h.alive hD hd)
  have hl := h.look_yes hx
  obtain ⟨c0, c1, c2, c3, _⟩ := h.head.told
  obtain ⟨v, hf, _⟩ := h.frm x hx
  obtain ⟨f0, f1, f2, f3, _⟩ := hf.told
  obtain ⟨pp, hpp⟩ : ∃ pp, x.pins = pp := ⟨_, rfl⟩
  rw [hpp] at f2 hp
  have hpd : decide ((pp : Int) > 0) = true := by simp; omega
  have hpd2 : decide (0 < pp) = true := by simpa using hp
  have hpi : (0 : Int) < (pp : Int) := by omega
  clear h hD hd hx hf hpp
  go_enter Tryz.func106, Tryz.ntmps106
  go_wp2_with fail
  refine H1.out.mono ?_
  rintro e w' ⟨rfl, rfl⟩
  go_wp2_with fail
  go_ret
  exact ⟨rfl, rfl⟩
set_option maxRecDepth 20000 in
theorem drop_yes (h : Cm w E g dg mb n B most time L) (hD : Disk w F dg D) (hd : D.dead = false) {x : Fr} (hx : x ∈ L) (hp : x.pins = 0) :
    Calls Tryz.prog 106 #[.pointer (some ⟨g, 0, none⟩), .int .i64 (x.s : Int)] w fun e w' => e = .returned (.int .i64 0) ∧ Cm w' E g dg mb n B most time (delL x.s L) ∧ Off (fun k => k = mb) w w' := by
  have H1 := Lib.hid (h.alive hD hd)
  have hl := h.look_yes hx
  obtain ⟨c0, c1, c2, c3, _⟩ := h.head.told
  obtain ⟨v, hf, _⟩ := h.frm x hx
  obtain ⟨f0, f1, f2, f3, _⟩ := hf.told
  rw [hp] at f2
  obtain ⟨w1, hdel, hm, ho⟩ := h.map.drop (x.s : Int) (WalkArith.wf_i64 (by have := (h.secs x hx).2.1; omega)) 0
  have HO := Lib.hid (And.intro (h.del x.s ⟨x, hx, rfl⟩ hm ho) ho)
  clear h hD hd hx hp hf hm ho
  go_enter Tryz.func106, Tryz.ntmps106
  go_wp2_with fail
  refine H1.out.mono ?_
  rintro e w' ⟨rfl, rfl⟩
  go_wp2_with fail
  go_ret
  exact ⟨rfl, HO.out⟩
end
end Go.Proofs.YtolpgpphjnkehaaGreatDoor.Cac
/- cache: Unpin that goes. -/
namespace Go.Proofs.YtolpgpphjnkehaaGreatDoor.Cac
set_option maxRecDepth 20000
open Go.RowKit Dsk
section
variable {w : World} {E F : Nat → Prop} {g dg mb n most time : Nat} {B : Nat → Nat} {L : List Fr} {D : DS}
end
end Go.Proofs.YtolpgpphjnkehaaGreatDoor.Cac
/- cache: a cache and its disk; putOut of a clean frame. -/
namespace Go.Proofs.YtolpgpphjnkehaaGreatDoor.Cac
set_option maxRecDepth 20000
open Go.RowKit Dsk

/-- The blocks of a cache. -/
def zone (E : Nat → Prop) (g mb : Nat) (B : Nat → Nat) (L : List Fr) : Nat → Prop := fun k => k = g ∨ k = mb ∨ E k ∨ ∃ x ∈ L, k = B x.s
/-- A cache and a disk that this call has made, all of it behind w0, and apart from X. -/
structure RunC (w0 w : World) (X : Nat → Prop) (g dg mb n most time : Nat) (B : Nat → Nat) (L : List Fr) (D : DS) (E : Nat → Prop) : Prop where
  cm : Cm w E g dg mb n B most time L
  run : Run w0 w (fun k => X k ∨ zone E g mb B L k) dg D
  far : ∀ k, zone E g mb B L k → w0.heap.size ≤ k ∧ ¬ X k
section
variable {w0 w : World} {X E : Nat → Prop} {g dg mb n most time : Nat} {B : Nat → Nat} {L : List Fr} {D : DS}
theorem Cm.keep {w' : World} (h : Cm w E g dg mb n B most time L) (hk : ∀ k, zone E g mb B L k → w'.heap[k]? = w.heap[k]?) (hs : w.heap.size ≤ w'.heap.size) : Cm w' E g dg mb n B most time L :=
  ⟨Blk.same h.head (hk g (.inl rfl)), h.map.same (hk mb (.inr (.inl rfl))), fun x hx => by
    obtain ⟨v, h1, h2⟩ := h.frm x hx
    exact ⟨v, Blk.same h1 (hk _ (.inr (.inr (.inr ⟨x, hx, rfl⟩)))), h2.same hs (fun k he _ => hk k (.inr (.inr (.inl he))))⟩, h.secs, h.nodup, h.inj, h.apart, h.e1, h.e2, h.ne⟩
theorem RunC.disk (h : RunC w0 w X g dg mb n most time B L D E) : ∃ F, Disk w F dg D := by obtain ⟨F, h1, _⟩ := h.run.own; exact ⟨F, h1⟩
/-- Behind something that the disk does. -/
theorem RunC.step {w' : World} {D' : DS} (h : RunC w0 w X g dg mb n most time B L D E) (hr : Run w0 w' (fun k => X k ∨ zone E g mb B L k) dg D') (hk : Keep (fun k => X k ∨ zone E g mb B L k) w w') : RunC w0 w' X g dg mb n most time B L D' E :=
  ⟨h.cm.keep (fun k hz => hk.at_ k (.inr hz)) hk.size, hr, h.far⟩
theorem zone_del {s k : Nat} (h : zone E g mb B (delL s L) k) : zone E g mb B L k := by
  rcases h with h | h | h | ⟨x, hx, h⟩
  · exact .inl h
  · exact .inr (.inl h)
  · exact .inr (.inr (.inl h))
  · exact .inr (.inr (.inr ⟨x, (List.mem_filter.1 hx).1, h⟩))
/-- Behind a frame that goes. -/
theorem RunC.gone {w' : World} {s : Nat} (h : RunC w0 w X g dg mb n most time B L D E) (hc : Cm w' E g dg mb n B most time (delL s L)) (ho : Off (fun k => k = mb) w w') : RunC w0 w' X g dg mb n most time B (delL s L) D E ∧ Keep X w w' :=
  ⟨⟨hc, h.run.turn ho (fun k e => ⟨.inr (.inr (.inl e)), (h.far k (.inr (.inl e))).1⟩) _ (fun k hk => by
      rcases hk with hk | hk
      · exact .inl (.inl hk)
      · exact .inl (.inr (zone_del hk))), fun k hk => h.far k (zone_del hk)⟩,
    ⟨ho.size, fun k hk => ho.block k (h.run.lt k (.inl hk)) (fun e => (h.far k (.inr (.inl e))).2 hk)⟩⟩
/-- Behind a frame that is turned. -/
theorem RunC.turned {w' : World} {y : Fr} {time' : Nat} (h : RunC w0 w X g dg mb n most time B L D E) (hy : ∃ x ∈ L, x.s = y.s) (hc : Cm w' (grow E w w') g dg mb n B most time' (updL y L)) (ho : Off (fun k => k = B y.s ∨ k = g) w w') : RunC w0 w' X g dg mb n most time' B (updL y L) D (grow E w w') ∧ Keep X w w' := by
  obtain ⟨x0, hx0, e0⟩ := hy
  have hz : ∀ k, zone (grow E w w') g mb B (updL y L) k → zone E g mb B L k ∨ (w.heap.size ≤ k ∧ k < w'.heap.size) := fun k hk => by
    rcases hk with hk | hk | hk | ⟨x, hx, hk⟩
    · exact .inl (.inl hk)
    · exact .inl (.inr (.inl hk))
    · rcases hk with hk | hk
      · exact .inl (.inr (.inr (.inl hk)))
      · exact .inr hk
    · rcases updL_mem hx with ⟨rfl, z, hz, e⟩ | ⟨hx, _⟩
      · exact .inl (.inr (.inr (.inr ⟨z, hz, by rw [hk, e]⟩)))
      · exact .inl (.inr (.inr (.inr ⟨x, hx, hk⟩)))
  have hF : ∀ k, (k = B y.s ∨ k = g) → zone E g mb B L k := fun k e => by
    rcases e with e | e
    · exact .inr (.inr (.inr ⟨x0, hx0, by rw [e, e0]⟩))
    · exact .inl e
  refine ⟨⟨hc, h.run.turn ho (fun k e => ⟨.inr (hF k e), (h.far k (hF k e)).1⟩) _ (fun k hk => ?_), fun k hk => ?_⟩, ⟨ho.size, fun k hk => ho.block k (h.run.lt k (.inl hk)) (fun e => (h.far k (hF k e)).2 hk)⟩⟩
  · rcases hk with hk | hk
    · exact .inl (.inl hk)
    · rcases hz k hk with hk | hk
      · exact .inl (.inr hk)
      · exact .inr hk
  · rcases hz k hk with hk | hk
    · exact h.far k hk
    · exact ⟨by have := h.run.size; omega, fun hx => by have := h.run.lt k (.inl hx); omega⟩
set_option maxRecDepth 20000 in
theorem putOut_clean (h : RunC w0 w X g dg mb n most time B L D E) {x : Fr} (hx : x ∈ L) (hd : x.dirty = false) :
    Calls Tryz.prog 170 #[.pointer (some ⟨g, 0, none⟩), .int .i64 (x.s : Int)] w fun e w' => e = .returned (.int .i64 0) ∧ RunC w0 w' X g dg mb n most time B (delL x.s L) D E ∧ Keep X w w' := by
  have hl := h.cm.look_yes hx
  obtain ⟨c0, c1, c2, c3, _⟩ := h.cm.head.told
  obtain ⟨v, hf, _⟩ := h.cm.frm x hx
  obtain ⟨f0, f1, f2, f3, _⟩ := hf.told
  rw [hd] at f1
  obtain ⟨w1, hdel, hm, ho⟩ := h.cm.map.drop (x.s : Int) (WalkArith.wf_i64 (by have := (h.cm.secs x hx).2.1; omega)) 0
  have HO := Lib.hid (h.gone (h.cm.del x.s ⟨x, hx, rfl⟩ hm ho) ho)
  clear h hd hx hf hm ho
  go_enter Tryz.func170, Tryz.ntmps170
  go_wp2_with fail
  go_ret
  exact ⟨rfl, HO.out⟩
end
end Go.Proofs.YtolpgpphjnkehaaGreatDoor.Cac
/- cache: putOut of a dirty frame. -/
namespace Go.Proofs.YtolpgpphjnkehaaGreatDoor.Cac
set_option maxRecDepth 20000
open Go.RowKit Dsk
section
variable {w0 w : World} {X E : Nat → Prop} {g dg mb n most time : Nat} {B : Nat → Nat} {L : List Fr} {D : DS}
theorem RunC.drewN (h : RunC w0 w X g dg mb n most time B L D E) (q : Nat) : RunC w0 (w.drewN q) X g dg mb n most time B L D E :=
  ⟨h.cm.below (drewN_below w q), h.run.below (drewN_below w q), h.far⟩
theorem RunC.writes (h : RunC w0 w X g dg mb n most time B L D E) {x : Fr} (hx : x ∈ L) {A : Option Addr} {c : Nat} (hb : Bytes w A x.b) (hP : D.P.length < 1000000) (hS : D.steps < 1000000000) (q : Nat) :
    Calls Tryz.prog 104 #[.pointer (some ⟨dg, 0, none⟩), .int .i64 (x.s : Int), .slice A 256 c] (w.drewN q) fun e w' => e = .returned (.int .i64 (writeE D (x.s : Int) x.b)) ∧ RunC w0 w' X g dg mb n most time B L (writeD D (x.s : Int) x.b) E ∧ Keep X w w' := by
  have h' := h.drewN q
  refine (h'.run.write 256 c A (x.s : Int) x.b (h.cm.secs x hx).1 (hb.below (drewN_below w q)) hP hS).mono ?_
  rintro e w' ⟨rfl, h1, h2⟩
  exact ⟨rfl, h'.step h1 h2, ⟨h2.size, fun k hk => h2.at_ k (.inl hk)⟩⟩
set_option maxRecDepth 20000 in
set_option maxHeartbeats 1000000 in
theorem putOut_no (h : RunC w0 w X g dg mb n most time B L D E) {x : Fr} (hx : x ∈ L) (hd : x.dirty = true) (hP : D.P.length < 1000000) (hS : D.steps < 1000000000) (he : writeE D (x.s : Int) x.b ≠ 0) :
    Calls Tryz.prog 170 #[.pointer (some ⟨g, 0, none⟩), .int .i64 (x.s : Int)] w fun e w' => e = .returned (.int .i64 (writeE D (x.s : Int) x.b)) ∧ RunC w0 w' X g dg mb n most time B L (writeD D (x.s : Int) x.b) E ∧ Keep X w w' := by
  have hl := h.cm.look_yes hx
  obtain ⟨c0, c1, c2, c3, _⟩ := h.cm.head.told
  obtain ⟨v, hf, A, c, rfl, _, _, hby, _⟩ := h.cm.frm x hx
  obtain ⟨f0, f1, f2, f3, _⟩ := hf.told
  rw [hd] at f1
  rw [(h.cm.secs x hx).1] at f0
  have HW := Lib.hid (h.writes hx (c := c) hby hP hS)
  obtain ⟨ee, hee⟩ : ∃ ee, writeE D (x.s : Int) x.b = ee := ⟨_, rfl⟩
  rw [hee] at HW he
  rw [hee]
  have hen : (ee != 0) = true := by simpa using he
  clear h hd hx hf hby hP hS hee
  go_enter Tryz.func170, Tryz.ntmps170
  go_wp2_with fail
  go_region_with (go_at_call 104; refine (HW.out _).mono ?_; rintro e w2 ⟨rfl, hrc, hk⟩; have HRC := Lib.hid hrc; have HK := Lib.hid hk; clear hrc hk)
  all_goals
    go_wp2_with fail
    go_ret
    exact ⟨rfl, HRC.out, HK.out⟩
set_option maxRecDepth 20000 in
set_option maxHeartbeats 1000000 in
theorem putOut_yes (h : RunC w0 w X g dg mb n most time B L D E) {x : Fr} (hx : x ∈ L) (hd : x.dirty = true) (hP : D.P.length < 1000000) (hS : D.steps < 1000000000) (he : writeE D (x.s : Int) x.b = 0) :
    Calls Tryz.prog 170 #[.pointer (some ⟨g, 0, none⟩), .int .i64 (x.s : Int)] w fun e w' => e = .returned (.int .i64 0) ∧ RunC w0 w' X g dg mb n most time B (delL x.s L) (writeD D (x.s : Int) x.b) E ∧ Keep X w w' := by
  have hl := h.cm.look_yes hx
  obtain ⟨c0, c1, c2, c3, _⟩ := h.cm.head.told
  obtain ⟨v, hf, A, c, rfl, _, _, hby, _⟩ := h.cm.frm x hx
  obtain ⟨f0, f1, f2, f3, _⟩ := hf.told
  rw [hd] at f1
  rw [(h.cm.secs x hx).1] at f0
  have HW := h.writes hx (c := c) hby hP hS
  rw [he] at HW
  replace HW := Lib.hid HW
  have HX := Lib.hid hx
  have HWF : Hid ((Lit.int .i64 (x.s : Int)).wf = true) := Lib.hid (WalkArith.wf_i64 (by have := (h.cm.secs x hx).2.1; omega))
  clear h hd hx hf hby hP hS he
  go_enter Tryz.func170, Tryz.ntmps170
  go_wp2_with fail
  go_region_with (go_at_call 104; refine (HW.out _).mono ?_; rintro e w2 ⟨rfl, hrc, hk⟩; have HRC := Lib.hid hrc; have HK := Lib.hid hk; obtain ⟨k0, k1, k2, k3, _⟩ := hrc.cm.head.told; obtain ⟨w3, hdel, hm, ho⟩ := hrc.cm.map.drop (x.s : Int) HWF.out 0; have HO := Lib.hid (hrc.gone (hrc.cm.del x.s ⟨x, HX.out, rfl⟩ hm ho) ho); clear hrc hk hm ho)
  all_goals
    go_wp2_with fail
    go_ret
    exact ⟨rfl, HO.out.1, HK.out.trans HO.out.2⟩
end
end Go.Proofs.YtolpgpphjnkehaaGreatDoor.Cac
/- cache: putOut in one form; makeRoom. -/
namespace Go.Proofs.YtolpgpphjnkehaaGreatDoor.Cac
set_option maxRecDepth 20000
open Go.RowKit Dsk
def outE (D : DS) (x : Fr) : Int := if x.dirty then writeE D (x.s : Int) x.b else 0
def outD (D : DS) (x : Fr) : DS := if x.dirty then writeD D (x.s : Int) x.b else D
def outL (D : DS) (x : Fr) (L : List Fr) : List Fr := if outE D x = 0 then delL x.s L else L
section
variable {w0 w : World} {X E : Nat → Prop} {g dg mb n most time : Nat} {B : Nat → Nat} {L : List Fr} {D : DS}
theorem RunC.below {w' : World} (h : RunC w0 w X g dg mb n most time B L D E) (hb : Below w.heap.size w w') : RunC w0 w' X g dg mb n most time B L D E ∧ Keep X w w' :=
  ⟨⟨h.cm.below hb, h.run.below hb, h.far⟩, ⟨hb.size, fun k hk => hb.block k (h.run.lt k (.inl hk))⟩⟩
theorem putOut_any (h : RunC w0 w X g dg mb n most time B L D E) {x : Fr} (hx : x ∈ L) (hP : D.P.length < 1000000) (hS : D.steps < 1000000000) :
    Calls Tryz.prog 170 #[.pointer (some ⟨g, 0, none⟩), .int .i64 (x.s : Int)] w fun e w' => e = .returned (.int .i64 (outE D x)) ∧ RunC w0 w' X g dg mb n most time B (outL D x L) (outD D x) E ∧ Keep X w w' := by
  cases hd : x.dirty with
  | false =>
    have e1 : outE D x = 0 := by unfold outE; rw [hd]; rfl
    have e2 : outD D x = D := by unfold outD; rw [hd]; rfl
    have e3 : outL D x L = delL x.s L := by unfold outL; rw [if_pos e1]
    rw [e1, e2, e3]
    exact putOut_clean h hx hd
  | true =>
    have e1 : outE D x = writeE D (x.s : Int) x.b := by unfold outE; rw [hd]; rfl
    have e2 : outD D x = writeD D (x.s : Int) x.b := by unfold outD; rw [hd]; rfl
    by_cases he : writeE D (x.s : Int) x.b = 0
    · have e3 : outL D x L = delL x.s L := by unfold outL; rw [e1, if_pos he]
      rw [e1, e2, e3, he]
      exact putOut_yes h hx hd hP hS he
    · have e3 : outL D x L = L := by unfold outL; rw [e1, if_neg he]
      rw [e1, e2, e3]
      exact putOut_no h hx hd hP hS he
set_option maxRecDepth 20000 in
set_option maxHeartbeats 1000000 in
theorem room_yes (h : RunC w0 w X g dg mb n most time B L D E) (hl : L.length < most) :
    Calls Tryz.prog 155 #[.pointer (some ⟨g, 0, none⟩)] w fun e w' => e = .returned (.int .i64 0) ∧ RunC w0 w' X g dg mb n most time B L D E ∧ Keep X w w' := by
  obtain ⟨c0, c1, c2, c3, _⟩ := h.cm.head.told
  have hlen : ∀ q ty, (Builtin.len_ #[159] ty #[.map (some mb)]).run Tryz.prog (w.drewN q) = .ok (.int .i64 (L.length : Int)) (w.drewN q) := fun q ty => (h.cm.below (drewN_below w q)).map.len ty
  obtain ⟨l, hll⟩ : ∃ l, L.length = l := ⟨_, rfl⟩
  rw [hll] at hlen hl
  have hlt : decide ((l : Int) < (most : Int)) = true := by simp; omega
  have HO : Hid (∀ q, RunC w0 (w.drewN q) X g dg mb n most time B L D E ∧ Keep X w (w.drewN q)) := Lib.hid (fun q => h.below (drewN_below w q))
  clear h hll
  go_enter Tryz.func155, Tryz.ntmps155
  go_wp2_with fail
  go_quiet (fail)
  go_wp2_with fail
  go_ret
  exact ⟨rfl, HO.out _⟩
end
end Go.Proofs.YtolpgpphjnkehaaGreatDoor.Cac
/- cache: makeRoom where there is none. -/
namespace Go.Proofs.YtolpgpphjnkehaaGreatDoor.Cac
set_option maxRecDepth 20000
open Go.RowKit Dsk
theorem uniq : ∀ {L : List Fr}, L.Pairwise (fun x y => x.s ≠ y.s) → ∀ {x y : Fr}, x ∈ L → y ∈ L → x.s = y.s → x = y
  | [], _, _, _, h, _, _ => by cases h
  | a :: L, hp, x, y, hx, hy, e => by
    obtain ⟨h1, h2⟩ := List.pairwise_cons.1 hp
    rcases List.mem_cons.1 hx with hx | hx
    · rcases List.mem_cons.1 hy with hy | hy
      · rw [hx, hy]
      · exact absurd e (by rw [hx]; exact h1 y hy)
    · rcases List.mem_cons.1 hy with hy | hy
      · exact absurd e.symm (by rw [hy]; exact h1 x hx)
      · exact uniq h2 hx hy e
section
variable {w0 w : World} {X E : Nat → Prop} {g dg mb n most time : Nat} {B : Nat → Nat} {L : List Fr} {D : DS}
set_option maxRecDepth 20000 in
set_option maxHeartbeats 2000000 in
theorem room_no (h : RunC w0 w X g dg mb n most time B L D E) (hl : most ≤ L.length) (hP : D.P.length < 1000000) (hS : D.steps < 1000000000) :
    Calls Tryz.prog 155 #[.pointer (some ⟨g, 0, none⟩)] w fun e w' =>
      ((∀ x ∈ L, x.pins ≠ 0) ∧ e = .returned (.int .i64 3) ∧ RunC w0 w' X g dg mb n most time B L D E ∧ Keep X w w') ∨
      ∃ x ∈ L, x.pins = 0 ∧ e = .returned (.int .i64 (outE D x)) ∧ RunC w0 w' X g dg mb n most time B (outL D x L) (outD D x) E ∧ Keep X w w' := by
  obtain ⟨c0, c1, c2, c3, _⟩ := h.cm.head.told
  have hlen : ∀ q ty, (Builtin.len_ #[159] ty #[.map (some mb)]).run Tryz.prog (w.drewN q) = .ok (.int .i64 (L.length : Int)) (w.drewN q) := fun q ty => (h.cm.below (drewN_below w q)).map.len ty
  obtain ⟨DD, hown, _, hSS⟩ := h.cm.map
  have HS := Lib.hid hSS
  have HH := Lib.hid h
  have HP := Lib.hid (And.intro hP hS)
  have HSUB0 : Hid (∀ z, Maps.has DD z = true → Maps.has DD z = true) := Lib.hid fun z h => h
  have HALL : Hid (∀ x ∈ L, Maps.has DD (.int .i64 (x.s : Int)) = true) := Lib.hid (fun x hx => by
    rw [(hSS _ (WalkArith.wf_i64 (by have := (h.cm.secs x hx).2.1; omega))).2, atS_of hx]; rfl)
  obtain ⟨l, hll⟩ : ∃ l, L.length = l := ⟨_, rfl⟩
  rw [hll] at hlen hl
  have hlt : decide ((l : Int) < (most : Int)) = false := by simp; omega
  have hltn : decide (l < most) = false := by simp; omega
  clear h hll hSS hP hS
  go_enter Tryz.func155, Tryz.ntmps155
  go_wp2_with fail
  go_quiet (fail)
  go_wp2_with (first
    | (at_range; refine wpList_range_own _ rfl _ 159 rfl 3 193 (Maps.int_keyed Tryz.underlying3) Tryz.underlying159 _ mb n DD rfl hown ?_; intro wr0 hrg0 hg0 hs0)
    | go_in)
  go_frame
  have hdr : (w.drewN nq).heap.size = w.heap.size := rfl
  try simp only [hlt]
  try simp only [hltn]
  try simp only [hdr]
  clear hdr
  go_loopw [3, 4, 5, 6] (fun ov fv _ _ wr => ∃ (left : Lit → Bool) (cnt : Nat) (o : Int) (f : Bool), wr.ranges Tryz.prog 3 ptrR mb w.heap.size n DD left cnt ∧ ov = .int .i64 o ∧ fv = .bool f ∧ Hid (∀ z, left z = true → Maps.has DD z = true) ∧ Hid (Below w.heap.size w wr) ∧
      Hid ((f = false ∧ ∀ x ∈ L, left (.int .i64 (x.s : Int)) = false → x.pins ≠ 0) ∨ (f = true ∧ ∃ x0 ∈ L, o = (x0.s : Int) ∧ x0.pins = 0)))
    (fun _ _ _ _ wr => wr.rangeLeft mb w.heap.size)
  case atStart =>
    refine ⟨_, _, 0, false, hrg0, rfl, rfl, HSUB0, Lib.hid ?_, Lib.hid (.inl ⟨rfl, fun x hx h0 => by rw [HALL.out x hx] at h0; cases h0⟩)⟩
    exact ⟨hg0.os, hg0.tape, hg0.output, hg0.size, fun k hk => hg0.block k hk (by simp)⟩
  case round =>
    obtain ⟨left, cnt, o, f, hrg, rfl, rfl, HSUB, HB, HOR⟩ := hrel
    have HC := Lib.hid (HH.out.below HB.out)
    obtain ⟨c0, c1, c2, c3, _⟩ := HC.out.1.cm.head.told
    go_wp2_with (first
      | (at_next; refine next_ptr _ rfl _ rfl (atS B L) mb w.heap.size n DD left cnt HS.out HSUB.out rfl hrg ?_ ?_)
      | go_in)
    · intro hc0 hl0
      clear hrg
      cases f with
      | false =>
        have HALLP : Hid (∀ x ∈ L, x.pins ≠ 0) := Lib.hid (by
          rcases HOR.out with ⟨_, h2⟩ | ⟨h1, _⟩
          · exact fun x hx => h2 x hx (hl0 _)
          · cases h1)
        clear HOR
        go_wp2_with fail
        go_ret
        exact .inl ⟨HALLP.out, rfl, HC.out⟩
      | true =>
        obtain ⟨x0, hx0, rfl, hp0⟩ : ∃ x0 ∈ L, o = (x0.s : Int) ∧ x0.pins = 0 := by
          rcases HOR.out with ⟨h1, _⟩ | ⟨_, h2⟩
          · cases h1
          · exact h2
        have HX0 := Lib.hid (And.intro hx0 hp0)
        have H1 := Lib.hid (putOut_any HC.out.1 hx0 HP.out.1 HP.out.2)
        clear HOR hx0 hp0
        go_wp2_with fail
        refine H1.out.mono ?_
        rintro e w2 ⟨rfl, hrc, hk⟩
        have HRC := Lib.hid (And.intro hrc (HC.out.2.trans hk))
        clear hrc hk
        go_wp2_with fail
        go_ret
        exact .inr ⟨x0, HX0.out.1, HX0.out.2, rfl, HRC.out⟩
    · intro x f0 w1 cnt1 hwx hlx hfx hrg1 hlt1 hg1 hs1 hen
      obtain ⟨y, hy, rfl, rfl⟩ := atS_some hfx
      have hb1 : Below w.heap.size w w1 := ⟨hg1.os.trans HB.out.os, hg1.tape.trans HB.out.tape, hg1.output.trans HB.out.output, Nat.le_trans HB.out.size hg1.size, fun k hk => (hg1.block k (Nat.lt_of_lt_of_le hk HB.out.size) (by simp; omega)).trans (HB.out.block k hk)⟩
      have HB1 : Hid (∀ q, Below w.heap.size w (w1.drewN q)) := Lib.hid (fun q => hb1.trans ((drewN_below w1 q).mono hb1.size))
      have HC1 := Lib.hid (HH.out.below hb1)
      obtain ⟨c0, c1, c2, c3, _⟩ := HC1.out.1.cm.head.told
      obtain ⟨v, hf, _⟩ := HC1.out.1.cm.frm y hy
      obtain ⟨f0, f1, f2, f3, _⟩ := hf.told
      have HSUB1 : Hid (∀ z, (left z && !z.sameKey (.int .i64 (y.s : Int))) = true → Maps.has DD z = true) := Lib.hid (fun z hz => HSUB.out z (by
        cases hh : left z with
        | true => rfl
        | false => rw [hh] at hz; cases hz))
      have HR := Lib.hid hrg
      have HR1 : Hid (∀ q, (w1.drewN q).ranges Tryz.prog 3 ptrR mb w.heap.size n DD (fun z => left z && !z.sameKey (.int .i64 (y.s : Int))) cnt1) := Lib.hid (fun q => hrg1)
      have HLT := Lib.hid hlt1
      have HNP : Hid (∀ p : Nat, y.pins = p → p ≠ 0 → f = false → (∀ x ∈ L, left (.int .i64 (x.s : Int)) = false → x.pins ≠ 0) → ∀ x ∈ L, (left (.int .i64 (x.s : Int)) && !(Lit.int .i64 (x.s : Int)).sameKey (.int .i64 (y.s : Int))) = false → x.pins ≠ 0) := Lib.hid (fun p hp hp0 _ hall x hx hz => by
        by_cases e : x.s = y.s
        · have : x = y := uniq HH.out.cm.nodup hx hy e
          rw [this, hp]; exact hp0
        · have hs : (Lit.int .i64 (x.s : Int)).sameKey (.int .i64 (y.s : Int)) = false := by rw [same_int]; simp; omega
          rw [hs] at hz
          exact hall x hx (by simpa using hz))
      have HY := Lib.hid hy
      obtain ⟨bf, hbf⟩ : ∃ bf, B y.s = bf := ⟨_, rfl⟩
      obtain ⟨pp, hpp⟩ : ∃ pp, y.pins = pp := ⟨_, rfl⟩
      obtain ⟨uu, huu⟩ : ∃ uu, y.used = uu := ⟨_, rfl⟩
      have HPP := Lib.hid hpp
      rw [hbf] at f0 f1 f2 f3 hen ⊢
      rw [hpp] at f2
      rw [huu] at f3
      clear hfx hy hwx hlx hg1 hs1 hb1 hf hbf hpp huu hrg hrg1 hlt1 hlen
      by_cases hp : pp = 0
      · have hpe : ((pp : Int) == 0) = true := by simp; omega
        cases f with
        | false =>
          go_wp2_with fail
          go_quiet (fail)
          go_wp2_with fail
          go_roundw
          case rel => exact ⟨_, cnt1, _, true, HR1.out _, rfl, rfl, HSUB1, Lib.hid (HB1.out _), Lib.hid (.inr ⟨rfl, y, HY.out, rfl, by rw [HPP.out, hp]⟩)⟩
          case measure => rw [(HR1.out _).left_eq, HR.out.left_eq]; exact HLT.out
        | true =>
          obtain ⟨x0, hx0, rfl, hp0⟩ : ∃ x0 ∈ L, o = (x0.s : Int) ∧ x0.pins = 0 := by
            rcases HOR.out with ⟨h1, _⟩ | ⟨_, h2⟩
            · cases h1
            · exact h2
          have hlk : ∀ q, (Instr.lookup 159 (.map (some mb)) (.int .i64 (x0.s : Int)) false).run Tryz.prog (w1.drewN q) = .ok (.pointer (some ⟨B x0.s, 0, none⟩)) (w1.drewN q) := fun q => (HH.out.below (HB1.out q)).1.cm.look_yes hx0
          obtain ⟨v0, hf0, _⟩ := HC1.out.1.cm.frm x0 hx0
          obtain ⟨d0, d1, d2, d3, _⟩ := hf0.told
          have HX0 := Lib.hid (And.intro hx0 hp0)
          obtain ⟨b0, hb0⟩ : ∃ b0, B x0.s = b0 := ⟨_, rfl⟩
          obtain ⟨u0, hu0⟩ : ∃ u0, x0.used = u0 := ⟨_, rfl⟩
          rw [hb0] at hlk d0 d1 d2 d3
          rw [hu0] at d3
          clear hx0 hp0 hf0 hb0 hu0
          by_cases hu : uu < u0
          · have hud : decide ((uu : Int) < (u0 : Int)) = true := by simpa using hu
            go_wp2_with fail
            go_quiet (fail)
            go_wp2_with fail
            go_roundw
            case rel => exact ⟨_, cnt1, _, true, HR1.out _, rfl, rfl, HSUB1, Lib.hid (HB1.out _), Lib.hid (.inr ⟨rfl, y, HY.out, rfl, by rw [HPP.out, hp]⟩)⟩
            case measure => rw [(HR1.out _).left_eq, HR.out.left_eq]; exact HLT.out
          · have hud : decide ((uu : Int) < (u0 : Int)) = false := by simpa using hu
            go_wp2_with fail
            go_quiet (fail)
            go_wp2_with fail
            go_roundw
            case rel => exact ⟨_, cnt1, _, true, HR1.out _, rfl, rfl, HSUB1, Lib.hid (HB1.out _), Lib.hid (.inr ⟨rfl, x0, HX0.out.1, rfl, HX0.out.2⟩)⟩
            case measure => rw [(HR1.out _).left_eq, HR.out.left_eq]; exact HLT.out
      · have hpe : ((pp : Int) == 0) = false := by simp; omega
        have HO2 : Hid ((f = false ∧ ∀ x ∈ L, (left (.int .i64 (x.s : Int)) && !(Lit.int .i64 (x.s : Int)).sameKey (.int .i64 (y.s : Int))) = false → x.pins ≠ 0) ∨ (f = true ∧ ∃ x0 ∈ L, o = (x0.s : Int) ∧ x0.pins = 0)) := Lib.hid (by
          rcases HOR.out with ⟨h1, h2⟩ | h2
          · exact .inl ⟨h1, HNP.out pp HPP.out hp h1 h2⟩
          · exact .inr h2)
        go_wp2_with fail
        go_quiet (fail)
        go_wp2_with fail
        go_roundw
        case rel => exact ⟨_, cnt1, o, f, HR1.out _, rfl, rfl, HSUB1, Lib.hid (HB1.out _), HO2⟩
        case measure => rw [(HR1.out _).left_eq, HR.out.left_eq]; exact HLT.out
end
end Go.Proofs.YtolpgpphjnkehaaGreatDoor.Cac
/- cache: a frame more. -/
namespace Go.Proofs.YtolpgpphjnkehaaGreatDoor.Cac
set_option maxRecDepth 20000
open Go.RowKit Dsk
def addB (B : Nat → Nat) (s f : Nat) : Nat → Nat := fun k => if k = s then f else B k
theorem addB_same (B : Nat → Nat) (s f : Nat) : addB B s f s = f := if_pos rfl
theorem addB_other (B : Nat → Nat) {s f k : Nat} (h : k ≠ s) : addB B s f k = B k := if_neg h
theorem atS_none {B : Nat → Nat} {L : List Fr} {s : Nat} (h : ∀ x ∈ L, x.s ≠ s) : atS B L (s : Int) = none := by
  unfold atS
  rw [List.find?_eq_none.2 (fun x hx => by have := h x hx; simp; omega)]; rfl
theorem atS_add (B : Nat → Nat) (y : Fr) (f : Nat) (L : List Fr) (h : ∀ x ∈ L, x.s ≠ y.s) : (fun j : Int => if j = (y.s : Int) then some f else atS B L j) = atS (addB B y.s f) (L ++ [y]) := by
  funext j
  unfold atS
  rw [List.find?_append]
  by_cases e : j = (y.s : Int)
  · rw [if_pos e, List.find?_eq_none.2 (fun x hx => by have := h x hx; simp; omega)]
    have : ([y] : List Fr).find? (fun x => (x.s : Int) == j) = some y := by simp [e]
    rw [this]
    show some f = some (addB B y.s f y.s)
    rw [addB_same]
  · rw [if_neg e]
    have : ([y] : List Fr).find? (fun x => (x.s : Int) == j) = none := by
      rw [List.find?_eq_none]
      intro x hx
      rw [List.mem_singleton.1 hx]
      simp; omega
    rw [this]
    cases hh : L.find? (fun x => (x.s : Int) == j) with
    | none => rfl
    | some x =>
      show some (B x.s) = some (addB B y.s f x.s)
      rw [addB_other B (h x (List.mem_of_find?_eq_some hh))]
theorem Cm.add {w w' : World} {E : Nat → Prop} {g dg mb n most time : Nat} {B : Nat → Nat} {L : List Fr} (h : Cm w E g dg mb n B most time L) (y : Fr) (f : Nat) (v : Value) (hno : ∀ x ∈ L, x.s ≠ y.s)
    (hf : Frm w f v y.dirty y.pins y.used) (hv : Sec w E v y.b) (hap : f ≠ g ∧ f ≠ mb ∧ ¬ E f) (hB : ∀ x ∈ L, B x.s ≠ f) (hs : y.b.length = 256 ∧ y.s < 1000000 ∧ y.pins < 1000000000)
    (hm : PMap w' mb (n + 1) (if (atS B L (y.s : Int)).isSome then L.length else L.length + 1) (fun j => if j = (y.s : Int) then some f else atS B L j)) (ho : Off (fun k => k = mb) w w') :
    Cm w' E g dg mb (n + 1) (addB B y.s f) most time (L ++ [y]) := by
  have hc : ∀ x ∈ L ++ [y], (x ∈ L ∧ addB B y.s f x.s = B x.s) ∨ (x = y ∧ addB B y.s f x.s = f) := fun x hx => by
    rcases List.mem_append.1 hx with hx | hx
    · exact .inl ⟨hx, addB_other B (hno x hx)⟩
    · rw [List.mem_singleton.1 hx]; exact .inr ⟨rfl, addB_same B _ _⟩
  rw [atS_none hno, atS_add B y f L hno] at hm
  refine ⟨Blk.same h.head (ho.block g (Blk.lt h.head) h.ne), by rw [List.length_append]; exact hm, fun x hx => ?_, fun x hx => ?_, ?_, fun x hx z hz e => ?_, fun x hx => ?_, h.e1, h.e2, h.ne⟩
  · rcases hc x hx with ⟨hx, e⟩ | ⟨rfl, e⟩
    · rw [e]
      obtain ⟨u, h1, h2⟩ := h.frm x hx
      exact ⟨u, Blk.same h1 (ho.block _ (Blk.lt h1) (h.apart x hx).2.1), h2.same ho.size (fun k hk hl => ho.block k hl (fun e => h.e2 (e ▸ hk)))⟩
    · rw [e]
      exact ⟨v, Blk.same hf (ho.block _ (Blk.lt hf) hap.2.1), hv.same ho.size (fun k hk hl => ho.block k hl (fun e => h.e2 (e ▸ hk)))⟩
  · rcases hc x hx with ⟨hx, _⟩ | ⟨rfl, _⟩
    · exact h.secs x hx
    · exact hs
  · rw [List.pairwise_append]
    exact ⟨h.nodup, List.pairwise_singleton _ _, fun a ha b hb => by rw [List.mem_singleton.1 hb]; exact hno a ha⟩
  · rcases hc x hx with ⟨hx', e1⟩ | ⟨ex, e1⟩
    · rcases hc z hz with ⟨hz', e2⟩ | ⟨ez, e2⟩
      · exact h.inj x hx' z hz' (by rw [← e1, ← e2]; exact e)
      · rw [e1, e2] at e; exact absurd e (hB x hx')
    · rcases hc z hz with ⟨hz', e2⟩ | ⟨ez, e2⟩
      · rw [e1, e2] at e; exact absurd e.symm (hB z hz')
      · rw [ex, ez]
  · rcases hc x hx with ⟨hx, e1⟩ | ⟨rfl, e1⟩
    · rw [e1]; exact h.apart x hx
    · rw [e1]; exact hap
end Go.Proofs.YtolpgpphjnkehaaGreatDoor.Cac
/- cache: a disk whose power stays, and what a cache says, apart from memory. -/
namespace Go.Proofs.YtolpgpphjnkehaaGreatDoor.Cac
set_option maxRecDepth 20000
open Go.RowKit Dsk

/-- A disk that is on, not armed, with n sectors that all can be read; t bounds what was done. -/
structure Hale (n t : Nat) (D : DS) : Prop where
  dead : D.dead = false
  armed : D.armed = 0
  len : D.S.length = n
  full : ∀ b ∈ D.S, b.length = 256
  pend : ∀ p ∈ D.P, p.1 < n ∧ p.2.length = 256
  P : D.P.length ≤ t
  steps : D.steps ≤ t
section
variable {n t : Nat} {D : DS}
theorem Hale.new (n : Nat) : Hale n 0 (newD n) := ⟨rfl, rfl, List.length_replicate, fun b hb => by rw [List.eq_of_mem_replicate hb]; exact zeros_length, (fun p hp => by cases hp), Nat.le_refl _, Nat.le_refl _⟩
theorem Hale.mono {u : Nat} (h : Hale n t D) (hu : t ≤ u) : Hale n u D := ⟨h.dead, h.armed, h.len, h.full, h.pend, Nat.le_trans h.P hu, Nat.le_trans h.steps hu⟩
theorem Hale.eta (h : Hale n t D) : D = ⟨D.S, D.P, false, 0, D.steps⟩ := by
  obtain ⟨S, P, d, a, t⟩ := D
  have h1 := h.dead; have h2 := h.armed
  simp at h1 h2
  subst h1; subst h2; rfl
theorem filled_full {b : List UInt8} (h : b.length = 256) : filled b 256 = b := by unfold filled; rw [h]; simp
theorem Hale.writeE (h : Hale n t D) {s : Nat} {b : List UInt8} (hs : s < n) (hb : b.length = 256) : writeE D (s : Int) b = 0 := by
  rw [h.eta, write_liveE _ _ _ s b (by rw [h.len]; exact hs) (by omega)]
theorem Hale.writeD (h : Hale n t D) {s : Nat} {b : List UInt8} (hs : s < n) (hb : b.length = 256) : writeD D (s : Int) b = ⟨D.S, D.P ++ [(s, b)], false, 0, D.steps + 1⟩ := by
  have e := write_liveD D.S D.P D.steps s b (by rw [h.len]; exact hs) (by omega)
  rw [filled_full hb, ← h.eta] at e
  exact e
theorem Hale.write (h : Hale n t D) {s : Nat} {b : List UInt8} (hs : s < n) (hb : b.length = 256) : Hale n (t + 1) (Go.Proofs.YtolpgpphjnkehaaGreatDoor.Cac.writeD D (s : Int) b) := by
  rw [h.writeD hs hb]
  exact ⟨rfl, rfl, h.len, h.full, fun p hp => (List.mem_append.1 hp).elim (h.pend p) fun hp => by rw [List.mem_singleton.1 hp]; exact ⟨hs, hb⟩, by have := h.P; simp; omega, by have := h.steps; show D.steps + 1 ≤ _; omega⟩
theorem Hale.writeR (h : Hale n t D) {s : Nat} {b : List UInt8} (hs : s < n) (hb : b.length = 256) (j : Nat) : readS (Go.Proofs.YtolpgpphjnkehaaGreatDoor.Cac.writeD D (s : Int) b) j = if s = j then b else readS D j := by
  rw [h.writeD hs hb]
  unfold readS
  show overlay j (D.P ++ [(s, b)]) (D.S.getD j []) = _
  rw [overlay_snoc]
theorem Hale.barE (h : Hale n t D) : barE D = 0 := by rw [h.eta]; rfl
theorem Hale.barD (h : Hale n t D) : barD D = ⟨settleTo (fun _ b => some b) D.P D.S D.P.length, [], false, 0, D.steps + 1⟩ := by
  rw [h.eta]; exact bar_liveD D.S D.P D.steps
theorem Hale.bar (h : Hale n t D) : Hale n (t + 1) (Go.Proofs.YtolpgpphjnkehaaGreatDoor.Cac.barD D) := by
  rw [h.barD]
  exact ⟨rfl, rfl, by rw [settleTo_length]; exact h.len, settle_full D.P D.S h.full (fun p hp => (h.pend p hp).2) _, (fun p hp => by cases hp), Nat.zero_le _, by have := h.steps; show D.steps + 1 ≤ _; omega⟩
theorem Hale.barS (h : Hale n t D) (s : Nat) : (Go.Proofs.YtolpgpphjnkehaaGreatDoor.Cac.barD D).S.getD s [] = readS D s := by
  rw [h.barD]
  show (settleTo (fun _ b => some b) D.P D.S D.P.length).getD s [] = _
  rw [settle_get D.P D.S s (fun p hp => by have := (h.pend p hp).1; rw [h.len]; exact this) D.P.length (Nat.le_refl _), List.take_length]
  rfl
theorem Hale.barR (h : Hale n t D) (s : Nat) : readS (Go.Proofs.YtolpgpphjnkehaaGreatDoor.Cac.barD D) s = readS D s := by
  have e := h.barS s
  unfold readS
  rw [show (Go.Proofs.YtolpgpphjnkehaaGreatDoor.Cac.barD D).P = [] by rw [h.barD]]
  exact e
theorem Hale.read (h : Hale n t D) {s : Nat} (hs : s < n) : (readS D s).length = 256 ∧ readE D s = 0 := by
  have h1 : (readS D s).length = 256 := by
    unfold readS
    rcases overlay_last s (D.S.getD s []) D.P with ⟨_, h2⟩ | ⟨k, _, h2, h3⟩
    · rw [h2]
      have hl : s < D.S.length := by rw [h.len]; exact hs
      simp only [List.getD, List.getElem?_eq_getElem hl, Option.getD_some]
      exact h.full _ (List.getElem_mem hl)
    · exact (h.pend _ (List.mem_of_getElem? h3)).2
  refine ⟨h1, ?_⟩
  have h2 : readE D s = if readS D s = [] then 5 else 0 := by
    have h3 := read_live D.S D.P D.steps 0 s (by rw [h.len]; exact hs)
    rw [← h.eta] at h3
    exact h3
  rw [h2, if_neg fun e => by rw [e] at h1; cases h1]
theorem Hale.new_read {n s : Nat} (hs : s < n) : readS (newD n) s = zeros := by
  unfold readS newD
  show overlay s [] ((List.replicate n zeros).getD s []) = zeros
  simp [overlay, List.getD, hs]
end

/-- What a cache says of a sector. -/
def what (D : DS) (L : List Fr) (j : Nat) : List UInt8 := ((L.find? fun x => x.s == j).map Fr.b).getD (readS D j)
theorem what_no {D : DS} {L : List Fr} {j : Nat} (h : ∀ x ∈ L, x.s ≠ j) : what D L j = readS D j := by
  unfold what
  rw [List.find?_eq_none.2 (fun x hx => by have := h x hx; simpa using this)]; rfl
theorem what_yes {D : DS} {L : List Fr} (hp : L.Pairwise fun x y => x.s ≠ y.s) {x : Fr} (hx : x ∈ L) : what D L x.s = x.b := by
  unfold what
  cases hh : L.find? (fun y => y.s == x.s) with
  | none =>
    rw [List.find?_eq_none] at hh
    exact absurd (by simp) (hh x hx)
  | some y =>
    have h1 := List.find?_some hh
    have h2 : y.s = x.s := by simpa using h1
    rw [uniq hp (List.mem_of_find?_eq_some hh) hx h2]; rfl
/-- A cache of at most most frames over a disk of n sectors. -/
structure Sta (n most t : Nat) (D : DS) (L : List Fr) : Prop where
  hale : Hale n t D
  clean : ∀ x ∈ L, x.dirty = false → x.b = readS D x.s
  inn : ∀ x ∈ L, x.s < n ∧ x.pins ≤ t ∧ x.b.length = 256
  nodup : L.Pairwise fun x y => x.s ≠ y.s
  len : L.length ≤ most
  top : most ≤ 1024 ∧ 16 ≤ n ∧ n ≤ 4096
section
variable {n most t : Nat} {D : DS} {L : List Fr}
theorem Sta.mono {u : Nat} (h : Sta n most t D L) (hu : t ≤ u) : Sta n most u D L := ⟨h.hale.mono hu, h.clean, fun x hx => ⟨(h.inn x hx).1, Nat.le_trans (h.inn x hx).2.1 hu, (h.inn x hx).2.2⟩, h.nodup, h.len, h.top⟩
theorem Sta.new (n most : Nat) (h : most ≤ 1024 ∧ 16 ≤ n ∧ n ≤ 4096) : Sta n most 0 (newD n) [] := ⟨Hale.new n, (fun x hx => by cases hx), (fun x hx => by cases hx), List.Pairwise.nil, Nat.zero_le _, h⟩
/-- A frame put out. -/
theorem Sta.outE (h : Sta n most t D L) {x : Fr} (hx : x ∈ L) : outE D x = 0 := by
  unfold Go.Proofs.YtolpgpphjnkehaaGreatDoor.Cac.outE
  split
  · exact h.hale.writeE (h.inn x hx).1 (h.inn x hx).2.2
  · rfl
theorem Sta.outL (h : Sta n most t D L) {x : Fr} (hx : x ∈ L) : outL D x L = delL x.s L := if_pos (h.outE hx)
theorem Sta.outR (h : Sta n most t D L) {x : Fr} (hx : x ∈ L) (j : Nat) : readS (outD D x) j = if x.s = j then x.b else readS D j := by
  unfold outD
  cases hd : x.dirty with
  | true => exact h.hale.writeR (h.inn x hx).1 (h.inn x hx).2.2 j
  | false =>
    rw [if_neg (by decide)]
    split
    · rename_i e; rw [← e, h.clean x hx hd]
    · rfl
theorem Sta.outH (h : Sta n most t D L) {x : Fr} (hx : x ∈ L) : Hale n (t + 1) (outD D x) := by
  unfold outD
  split
  · exact h.hale.write (h.inn x hx).1 (h.inn x hx).2.2
  · exact h.hale.mono (Nat.le_succ _)
theorem delL_mem {s : Nat} {x : Fr} : x ∈ delL s L ↔ x ∈ L ∧ x.s ≠ s := by unfold delL; rw [List.mem_filter]; simp
theorem Sta.out (h : Sta n most t D L) {x : Fr} (hx : x ∈ L) : Sta n most (t + 1) (outD D x) (delL x.s L) :=
  ⟨h.outH hx, fun y hy hd => by
      obtain ⟨h1, h2⟩ := delL_mem.1 hy
      rw [h.outR hx, if_neg (fun e => h2 e.symm)]; exact h.clean y h1 hd,
    fun y hy => by
      obtain ⟨h1, _⟩ := delL_mem.1 hy
      exact ⟨(h.inn y h1).1, Nat.le_succ_of_le (h.inn y h1).2.1, (h.inn y h1).2.2⟩,
    h.nodup.filter _, Nat.le_trans (List.length_filter_le _ _) h.len, h.top⟩
theorem what_out (h : Sta n most t D L) {x : Fr} (hx : x ∈ L) (j : Nat) : what (outD D x) (delL x.s L) j = what D L j := by
  by_cases hj : ∃ y ∈ L, y.s = j
  · obtain ⟨y, hy, rfl⟩ := hj
    rw [what_yes h.nodup hy]
    by_cases e : y.s = x.s
    · have : y = x := uniq h.nodup hy hx e
      subst this
      rw [what_no (fun z hz => (delL_mem.1 hz).2), h.outR hy, if_pos rfl]
    · exact what_yes (h.out hx).nodup (delL_mem.2 ⟨hy, e⟩)
  · have hn : ∀ y ∈ L, y.s ≠ j := fun y hy e => hj ⟨y, hy, e⟩
    rw [what_no hn, what_no (fun y hy => hn y (delL_mem.1 hy).1), h.outR hx, if_neg (hn x hx)]
/-- There is room: as it is, or behind some frame without pins that was put out. -/
def Room (most : Nat) (D : DS) (L : List Fr) (D' : DS) (L' : List Fr) : Prop :=
  (L.length < most ∧ D' = D ∧ L' = L) ∨ (most ≤ L.length ∧ ∃ x ∈ L, x.pins = 0 ∧ D' = outD D x ∧ L' = delL x.s L)
theorem Room.sta {D' : DS} {L' : List Fr} (h : Sta n most t D L) (hr : Room most D L D' L') (hm : 0 < most) : Sta n most (t + 1) D' L' ∧ L'.length < most ∧ (∀ x ∈ L', x ∈ L) ∧ ∀ j, what D' L' j = what D L j := by
  rcases hr with ⟨h1, rfl, rfl⟩ | ⟨h1, x, hx, _, rfl, rfl⟩
  · exact ⟨h.mono (Nat.le_succ _), h1, fun x hx => hx, fun _ => rfl⟩
  · refine ⟨h.out hx, ?_, fun y hy => (delL_mem.1 hy).1, what_out h hx⟩
    rw [delL_len h.nodup ⟨x, hx, rfl⟩]
    have := h.len; have := List.length_pos_of_mem hx; omega
theorem updL_yes {y : Fr} (hy : ∃ x ∈ L, x.s = y.s) : y ∈ updL y L := by
  obtain ⟨x, hx, e⟩ := hy
  exact List.mem_map.2 ⟨x, hx, by rw [if_pos e]⟩
/-- A frame turned. -/
theorem Sta.upd (h : Sta n most t D L) {y : Fr} (hy : ∃ x ∈ L, x.s = y.s) (hc : y.dirty = false → y.b = readS D y.s) (hp : y.pins ≤ t) (hb : y.b.length = 256) : Sta n most t D (updL y L) :=
  ⟨h.hale, fun x hx hd => by
      rcases updL_mem hx with ⟨rfl, _⟩ | ⟨hx, _⟩
      · exact hc hd
      · exact h.clean x hx hd,
    fun x hx => by
      rcases updL_mem hx with ⟨rfl, z, hz, e⟩ | ⟨hx, _⟩
      · exact ⟨by rw [← e]; exact (h.inn z hz).1, hp, hb⟩
      · exact h.inn x hx,
    by
      unfold updL
      rw [List.pairwise_map]
      exact h.nodup.imp fun {a b} hab => by rw [updL_s, updL_s]; exact hab,
    by rw [updL_len]; exact h.len, h.top⟩
theorem what_upd (hp : L.Pairwise fun x y => x.s ≠ y.s) {y : Fr} (hy : ∃ x ∈ L, x.s = y.s) (j : Nat) : what D (updL y L) j = if j = y.s then y.b else what D L j := by
  have hp' : (updL y L).Pairwise fun x y => x.s ≠ y.s := by
    unfold updL
    rw [List.pairwise_map]
    exact hp.imp fun {a b} hab => by rw [updL_s, updL_s]; exact hab
  by_cases e : j = y.s
  · rw [if_pos e, e]; exact what_yes hp' (updL_yes hy)
  · rw [if_neg e]
    by_cases hj : ∃ x ∈ L, x.s = j
    · obtain ⟨x, hx, rfl⟩ := hj
      rw [what_yes hp hx]
      exact what_yes hp' (List.mem_map.2 ⟨x, hx, by rw [if_neg e]⟩)
    · have hn : ∀ x ∈ L, x.s ≠ j := fun x hx e => hj ⟨x, hx, e⟩
      rw [what_no hn, what_no (fun x hx => by
        rcases updL_mem hx with ⟨rfl, _⟩ | ⟨hx, _⟩
        · exact fun e' => e e'.symm
        · exact hn x hx)]
/-- A frame more. -/
theorem Sta.add (h : Sta n most t D L) {y : Fr} (hno : ∀ x ∈ L, x.s ≠ y.s) (hl : L.length < most) (hs : y.s < n) (hc : y.dirty = false → y.b = readS D y.s) (hp : y.pins ≤ t) (hb : y.b.length = 256) : Sta n most t D (L ++ [y]) :=
  ⟨h.hale, fun x hx hd => by
      rcases List.mem_append.1 hx with hx | hx
      · exact h.clean x hx hd
      · rw [List.mem_singleton.1 hx] at hd ⊢; exact hc hd,
    fun x hx => by
      rcases List.mem_append.1 hx with hx | hx
      · exact h.inn x hx
      · rw [List.mem_singleton.1 hx]; exact ⟨hs, hp, hb⟩,
    by rw [List.pairwise_append]; exact ⟨h.nodup, List.pairwise_singleton _ _, fun a ha b hb => by rw [List.mem_singleton.1 hb]; exact hno a ha⟩,
    by rw [List.length_append]; simp; omega, h.top⟩
theorem what_add (hp : L.Pairwise fun x y => x.s ≠ y.s) {y : Fr} (hno : ∀ x ∈ L, x.s ≠ y.s) (j : Nat) : what D (L ++ [y]) j = if j = y.s then y.b else what D L j := by
  have hp' : (L ++ [y]).Pairwise fun x y => x.s ≠ y.s := by rw [List.pairwise_append]; exact ⟨hp, List.pairwise_singleton _ _, fun a ha b hb => by rw [List.mem_singleton.1 hb]; exact hno a ha⟩
  by_cases e : j = y.s
  · rw [if_pos e, e]; exact what_yes hp' (List.mem_append.2 (.inr (List.mem_singleton.2 rfl)))
  · rw [if_neg e]
    by_cases hj : ∃ x ∈ L, x.s = j
    · obtain ⟨x, hx, rfl⟩ := hj
      rw [what_yes hp hx]
      exact what_yes hp' (List.mem_append.2 (.inl hx))
    · have hn : ∀ x ∈ L, x.s ≠ j := fun x hx e => hj ⟨x, hx, e⟩
      rw [what_no hn, what_no (fun x hx => by
        rcases List.mem_append.1 hx with hx | hx
        · exact hn x hx
        · rw [List.mem_singleton.1 hx]; exact fun e' => e e'.symm)]
end
end Go.Proofs.YtolpgpphjnkehaaGreatDoor.Cac
/- cache: slices.Clone of bytes. -/
namespace Go.Proofs.YtolpgpphjnkehaaGreatDoor.Cac
set_option maxRecDepth 20000
open Go.RowKit Dsk
attribute [local go_sem] Oper.semAt_some

theorem own_new (w : World) (base : Nat) (h : base ≤ w.heap.size) : (w.alloc (.cells #[] 5)).ownsRow base 5 1 (.slice (some ⟨w.heap.size, 0, none⟩) 0 0) 0 (([] : List UInt8).map bv) :=
  World.ownsRow_made w #[] 0 h (Nat.zero_le _) rfl
theorem run_eqnil (a : Addr) (l c : Nat) (w : World) : (binOp .eql 32 (.slice (some a) l c) (.slice none 0 0)).run Tryz.prog w = .ok (.bool false) w := by
  exact Lib.run_eql_slice_nil w 32 5 (some a) l c 0 0 Tryz.underlying32

set_option maxHeartbeats 400000 in
set_option maxRecDepth 20000 in
theorem clone_any (g o : Nat) (len cap : Nat) (bs : List UInt8) (w : World) (hbl : bs.length = len) (h0 : 0 < len) (hl : len ≤ 1048576) (hA : Bytes w (some ⟨g, o, none⟩) bs) :
    Calls Tryz.prog 80 #[.slice (some ⟨g, o, none⟩) len cap] w fun e w' => ∃ q c, e = .returned (.slice (some ⟨q, 0, none⟩) len c) ∧ Rw w' q len c bs ∧ w.heap.size ≤ q ∧ Below w.heap.size w w' := by
  have hb0 : Below w.heap.size w (w.alloc (.cells #[] 5)) := (Below.refl _ w).alloc (Nat.le_refl _) _
  obtain ⟨v1, w1, hrun1, hown1, hgr1⟩ := run_app8 (w.alloc (.cells #[] 5)) w.heap.size _ 0 [] (own_new w w.heap.size (Nat.le_refl _)) (some ⟨g, o, none⟩) len cap bs hbl (hA.below hb0) (by omega) (by simp)
  rw [List.nil_append, Nat.zero_add] at hown1
  have hb1 : Below w.heap.size w w1 := hb0.grown hgr1 (by simp) (fun k e => by simp [Value.ownBlock] at e; omega)
  obtain ⟨q, c, hv, hq⟩ : ∃ q c, v1 = .slice (some ⟨q, 0, none⟩) len c ∧ w.heap.size ≤ q := by
    rcases hown1.2 with ⟨rfl, e⟩ | ⟨q, c, cur, e, h1, _⟩
    · omega
    · exact ⟨q, c, e, h1⟩
  subst hv
  have HRUN := Lib.hid hrun1
  have HO := Lib.hid (Rw.of_own hown1)
  have HB1 := Lib.hid hb1
  have heq := run_eqnil ⟨g, o, none⟩ len cap
  clear hrun1 hown1 hgr1 hb1 hb0 hA
  go_enter Tryz.func80, Tryz.ntmps80
  go_wp2_with (at_builtin; refine wpList_app rfl _ _ 32 rfl _ _ _ _ rfl rfl HRUN.out ?_; clear HRUN)
  go_ret
  exact ⟨_, _, rfl, HO.out, hq, HB1.out⟩

end Go.Proofs.YtolpgpphjnkehaaGreatDoor.Cac
/- cache: slices.Sort of ints. -/
namespace Go.Proofs.YtolpgpphjnkehaaGreatDoor.Cac
set_option maxRecDepth 20000
open Go.RowKit Go.Shelf
def lays189_ren : Go.Shelf.Ren := ⟨fun | 189 => 189 | 125 => 198 | 257 => 197 | 128 => 212 | 129 => 213 | 294 => 203 | 295 => 204 | 296 => 205 | 297 => 206 | 298 => 207 | 299 => 208 | 216 => 209 | 300 => 210 | 301 => 211 | 328 => 222 | 329 => 223 | 330 => 224 | 331 => 225 | 332 => 226 | 215 => 227 | 343 => 235 | n => n, fun | 28 => 33 | 3 => 3 | 46 => 207 | 0 => 0 | 51 => 54 | 53 => 160 | 4 => 4 | 183 => 240 | 182 => 239 | 131 => 150 | 5 => 5 | 9 => 9 | 218 => 254 | 222 => 258 | 228 => 263 | 229 => 264 | n => n, fun | n => n⟩
theorem lays189 : Go.Proofs.Lays.n189 Tryz.prog lays189_ren := {
  mixed := by kernel_rfl
  f125 := Tryz.func198.trans (congrArg some (by kernel_rfl))
  f128 := Tryz.func212.trans (congrArg some (by kernel_rfl))
  f129 := Tryz.func213.trans (congrArg some (by kernel_rfl))
  f189 := Tryz.func189.trans (congrArg some (by kernel_rfl))
  f215 := Tryz.func227.trans (congrArg some (by kernel_rfl))
  f216 := Tryz.func209.trans (congrArg some (by kernel_rfl))
  f257 := Tryz.func197.trans (congrArg some (by kernel_rfl))
  f294 := Tryz.func203.trans (congrArg some (by kernel_rfl))
  f295 := Tryz.func204.trans (congrArg some (by kernel_rfl))
  f296 := Tryz.func205.trans (congrArg some (by kernel_rfl))
  f297 := Tryz.func206.trans (congrArg some (by kernel_rfl))
  f298 := Tryz.func207.trans (congrArg some (by kernel_rfl))
  f299 := Tryz.func208.trans (congrArg some (by kernel_rfl))
  f300 := Tryz.func210.trans (congrArg some (by kernel_rfl))
  f301 := Tryz.func211.trans (congrArg some (by kernel_rfl))
  f328 := Tryz.func222.trans (congrArg some (by kernel_rfl))
  f329 := Tryz.func223.trans (congrArg some (by kernel_rfl))
  f330 := Tryz.func224.trans (congrArg some (by kernel_rfl))
  f331 := Tryz.func225.trans (congrArg some (by kernel_rfl))
  f332 := Tryz.func226.trans (congrArg some (by kernel_rfl))
  f343 := Tryz.func235.trans (congrArg some (by kernel_rfl))
  t0 := Tryz.underlying0
  a0 := Tryz.isAgg0
  z0 := Tryz.sizeOf0
  v0 := Tryz.zeroValue0
  t3 := Tryz.underlying3
  a3 := Tryz.isAgg3
  z3 := Tryz.sizeOf3
  v3 := Tryz.zeroValue3
  t4 := Tryz.underlying4
  a4 := Tryz.isAgg4
  z4 := Tryz.sizeOf4
  v4 := Tryz.zeroValue4
  t5 := Tryz.underlying5
  a5 := Tryz.isAgg5
  z5 := Tryz.sizeOf5
  v5 := Tryz.zeroValue5
  t9 := Tryz.underlying9
  a9 := Tryz.isAgg9
  z9 := Tryz.sizeOf9
  v9 := Tryz.zeroValue9
  t28 := Tryz.underlying33
  a28 := Tryz.isAgg33
  z28 := Tryz.sizeOf33
  v28 := Tryz.zeroValue33
  t46 := Tryz.underlying207
  a46 := Tryz.isAgg207
  z46 := Tryz.sizeOf207
  v46 := Tryz.zeroValue207
  t51 := Tryz.underlying54
  a51 := Tryz.isAgg54
  z51 := Tryz.sizeOf54
  v51 := Tryz.zeroValue54
  t53 := Tryz.underlying160
  a53 := Tryz.isAgg160
  z53 := Tryz.sizeOf160
  v53 := Tryz.zeroValue160
  t131 := Tryz.underlying150
  a131 := Tryz.isAgg150
  z131 := Tryz.sizeOf150
  v131 := Tryz.zeroValue150
  t182 := Tryz.underlying239
  a182 := Tryz.isAgg239
  z182 := Tryz.sizeOf239
  v182 := Tryz.zeroValue239
  t183 := Tryz.underlying240
  a183 := Tryz.isAgg240
  z183 := Tryz.sizeOf240
  v183 := Tryz.zeroValue240
  t218 := Tryz.underlying254
  a218 := Tryz.isAgg254
  z218 := Tryz.sizeOf254
  v218 := Tryz.zeroValue254
  t222 := Tryz.underlying258
  a222 := Tryz.isAgg258
  z222 := Tryz.sizeOf258
  v222 := Tryz.zeroValue258
  t228 := Tryz.underlying263
  a228 := Tryz.isAgg263
  z228 := Tryz.sizeOf263
  v228 := Tryz.zeroValue263
  t229 := Tryz.underlying264
  a229 := Tryz.isAgg264
  z229 := Tryz.sizeOf264
  v229 := Tryz.zeroValue264 }
open Go.Sort Go.RowKit in
theorem slices_Sort_int (blk off cap : Nat) (zs : List Int) (w : World) (hH : Holds (Value.int .i64) w blk off zs.toArray) (hblk : blk < w.heap.size) (hsz : zs.length < 4611686018427387904) :
    Calls Tryz.prog 189 #[.slice (some ⟨blk, off, none⟩) zs.length cap] w fun e w' =>
      e = .returned (.tuple #[]) ∧ ∃ n os, w' = Go.Sort.grow (putRow (Value.int .i64) (Sort.ahead w n) blk off (zs.mergeSort fun x y => decide (x ≤ y)).toArray) os := Any.slices_Sort_int lays189 blk off cap zs w hH hblk hsz
end Go.Proofs.YtolpgpphjnkehaaGreatDoor.Cac
/- cache: rising. -/
namespace Go.Proofs.YtolpgpphjnkehaaGreatDoor.Cac
set_option maxRecDepth 20000
open Go.RowKit Go.Sort Dsk

/-- Numbers that were appended. -/
structure IntsZ (W : World) (sv : Value) (zs : List Int) : Prop where
  own : W.ownsRow 0 3 1 sv zs.length (zs.map fun (z : Int) => Value.int .i64 z)
theorem IntsZ.nil (W : World) : IntsZ W (.slice none 0 0) [] := ⟨World.ownsRow_nil _ _ _ _⟩
theorem IntsZ.shape {W : World} {sv : Value} {zs : List Int} (h : IntsZ W sv zs) : ∃ A c, sv = .slice A zs.length c ∧ zs.length ≤ c ∧ c ≤ maxLen := by
  rcases h.own.2 with ⟨rfl, h0⟩ | ⟨g, cap, cur, rfl, _, _, h1, h2, _⟩
  · exact ⟨none, 0, by rw [h0], by omega, Nat.zero_le _⟩
  · exact ⟨_, _, rfl, h1, h2⟩
theorem IntsZ.lt {W : World} {sv : Value} {zs : List Int} (h : IntsZ W sv zs) (k : Nat) (hk : sv.ownBlock = some k) : k < W.heap.size := (h.own.lt k hk).2
theorem IntsZ.same {W W' : World} {sv : Value} {zs : List Int} (h : IntsZ W sv zs) (hr : ∀ k, sv.ownBlock = some k → W'.heap[k]? = W.heap[k]?) : IntsZ W' sv zs := by
  refine ⟨h.own.1, ?_⟩
  rcases h.own.2 with h0 | ⟨g, cap, cur, rfl, h1, h2, h3⟩
  · exact .inl h0
  · exact .inr ⟨g, cap, cur, rfl, h1, (hr g rfl).trans h2, h3⟩
theorem IntsZ.get {W : World} {sv : Value} {zs : List Int} (h : IntsZ W sv zs) (k : Nat) (z : Int) (hz : zs[k]? = some z) : ∃ g c, sv = .slice (some ⟨g, 0, none⟩) zs.length c ∧ g < W.heap.size ∧ W.cell? ⟨g, k, none⟩ = some (.int .i64 z) := by
  have hk := (List.getElem?_eq_some_iff.1 hz).1
  rcases h.own.2 with ⟨rfl, e⟩ | ⟨g, cap, cur, rfl, _, h1, _⟩
  · omega
  · have c1 := h.own.cellAt k (by omega)
    rw [List.getElem?_map, hz] at c1
    exact ⟨g, cap, rfl, h.lt g rfl, c1⟩
theorem IntsZ.push {W : World} {sv : Value} {zs : List Int} (h : IntsZ W sv zs) (z : Int) (b : Nat) (h0 : W.cell? ⟨b, 0, none⟩ = some (.int .i64 z)) (hl : zs.length < 1000000) :
    ∃ v' w', (Builtin.append_ #[33, 33] 33 #[sv, .slice (some ⟨b, 0, none⟩) 1 1]).run Tryz.prog W = .ok v' w' ∧ IntsZ w' v' (zs ++ [z]) ∧ W.grownBy w' sv.ownBlock ∧ (v'.ownBlock = sv.ownBlock ∨ v'.ownBlock = some W.heap.size) := by
  have hI : (Tryz.prog.info? 3).map (fun i => (i.zero, i.size, i.bytes)) = some (some (.int .i64 0), 1, 8) := by kernel_rfl
  obtain ⟨i0, hi, hz0, hz1, hz2⟩ := info_parts hI
  have hcell : ∀ (j : Nat) (u : Value), [Value.int .i64 z][j]? = some u → W.cell? ((⟨b, 0, none⟩ : Addr).add j) = some u := fun j u hj => by
    have e2 : (⟨b, 0, none⟩ : Addr).add j = ⟨b, 0 + j, none⟩ := by unfold Addr.add; split <;> simp_all
    rw [e2, Nat.zero_add]
    rcases j with _ | j
    · cases hj; exact h0
    · simp at hj
  obtain ⟨v', w', hrun, h2, h3, _, h5⟩ := run_append_own_at (P := Tryz.prog) W 0 33 33 3 i0 (.int .i64 0) 1 8 Tryz.underlying33 hi hz0 hz1 hz2 rfl (by decide) sv zs.length _ h.own ⟨b, 0, none⟩ 1 1 [.int .i64 z] (by simp) hcell
    (fun u hu => by rw [List.mem_singleton.1 hu]; rfl) (by unfold maxLen; omega) (by omega) (Nat.zero_le _)
  exact ⟨v', w', hrun, ⟨by rw [List.length_append, List.length_singleton, List.map_append]; exact h2⟩, h3, h5⟩

theorem run_mkI0 (n : Nat) (hn : n ≤ 4096) (w : World) :
    (Instr.makeSlice 33 (.int .i64 0) (.int .i64 (n : Int))).run Tryz.prog w = .ok (.slice (some ⟨w.heap.size, 0, none⟩) 0 n) (w.alloc (.cells (madeCells #[.int .i64 0] n) 3)) := by
  have hI : (Tryz.prog.info? 3).map (fun i => (i.zero, i.size, i.bytes)) = some (some (.int .i64 0), 1, 8) := by kernel_rfl
  obtain ⟨i0, hi, hz0, hz1, hz2⟩ := info_parts hI
  have h := run_make (P := Tryz.prog) w 33 3 i0 (.int .i64 0) Tryz.underlying33 hi hz0 .i64 .i64 0 (n : Int) (by omega) (by omega) (by rw [hz2]; omega) (by omega)
  simpa [hz1, Value.cells] using h
def nums (V : List Nat) : List Int := V.map fun (z : Nat) => (z : Int)
theorem nums_len (V : List Nat) : (nums V).length = V.length := List.length_map _
theorem nums_get {V : List Nat} {k z : Nat} (h : V[k]? = some z) : (nums V)[k]? = some (z : Int) := by unfold nums; rw [List.getElem?_map, h]; rfl
/-- Between the rounds. -/
structure RisI (w wr : World) (v : Value) (V : List Nat) : Prop where
  ints : IntsZ wr v (nums V)
  own : ∀ j, v.ownBlock = some j → j = w.heap.size ∨ w.heap.size + 2 ≤ j
  blk : ∃ q c, v = .slice (some ⟨q, 0, none⟩) V.length c
  bel : Below w.heap.size w wr
  sz : w.heap.size + 2 ≤ wr.heap.size
theorem IntsZ.own_lt {W : World} {q l c : Nat} {zs : List Int} (h : IntsZ W (.slice (some ⟨q, 0, none⟩) l c) zs) : q < W.heap.size := h.lt q rfl
theorem RisI.frame {w wr w2 : World} {v : Value} {V : List Nat} (h : RisI w wr v V) (hg : wr.grownBy w2 (some (w.heap.size + 1))) : RisI w w2 v V :=
  ⟨h.ints.same fun k hk => hg.block k (h.ints.lt k hk) (fun e => by have := Option.some.inj e; rcases h.own k hk with h1 | h1 <;> omega), h.own, h.blk,
    h.bel.grown hg h.bel.size (fun k e => by have := Option.some.inj e; omega), Nat.le_trans h.sz hg.size⟩
theorem RisI.push {w W : World} {v : Value} {V : List Nat} (h : RisI w W v V) (z : Nat) (hl : V.length < 1000000) :
    ∃ q c v' w5, v = .slice (some ⟨q, 0, none⟩) V.length c ∧ (Builtin.append_ #[33, 33] 33 #[v, .slice (some ⟨W.heap.size, 0, none⟩) 1 1]).run Tryz.prog (W.alloc (.cells #[.int .i64 (z : Int)] 3)) = .ok v' w5 ∧ RisI w w5 v' (V ++ [z]) ∧ W.grownBy w5 v.ownBlock := by
  obtain ⟨q, c, hv⟩ := h.blk
  have hg0 : W.grownBy (W.alloc (.cells #[.int .i64 (z : Int)] 3)) none := World.grownBy_alloc W _ none
  have h1 : IntsZ (W.alloc (.cells #[.int .i64 (z : Int)] 3)) v (nums V) := h.ints.same fun k hk => hg0.block k (h.ints.lt k hk) (by simp)
  obtain ⟨v', w5, hrun, h2, h3, h4⟩ := h1.push (z : Int) W.heap.size ((Blk.new W _ _).cell 0) (by rw [nums_len]; exact hl)
  have e : nums V ++ [(z : Int)] = nums (V ++ [z]) := by unfold nums; rw [List.map_append]; rfl
  rw [e] at h2
  have hg : W.grownBy w5 v.ownBlock := ⟨h3.os, h3.tape, h3.output, Nat.le_trans hg0.size h3.size, fun k hk hn => (h3.block k (Nat.lt_of_lt_of_le hk hg0.size) hn).trans (hg0.block k hk (by simp))⟩
  refine ⟨q, c, v', w5, hv, hrun, ⟨h2, fun j hj => ?_, ?_, h.bel.grown hg h.bel.size (fun k e => by rcases h.own k e with h1 | h1 <;> omega), Nat.le_trans h.sz hg.size⟩, hg⟩
  · rcases h4 with e | e
    · rw [e] at hj; exact h.own j hj
    · rw [e] at hj
      have h5 := Option.some.inj hj
      have h6 := h.sz
      rw [World.size_alloc] at h5
      exact .inr (by omega)
  · obtain ⟨g, c', e1, _⟩ := h2.get V.length (z : Int) (nums_get (by rw [List.getElem?_append_right (Nat.le_refl _), Nat.sub_self]; rfl))
    rw [nums_len] at e1
    exact ⟨g, c', e1⟩
theorem IntsZ.ints {W : World} {q l c : Nat} {zs : List Int} (h : IntsZ W (.slice (some ⟨q, 0, none⟩) l c) zs) (hw : ∀ z ∈ zs, -9223372036854775808 ≤ z ∧ z < 9223372036854775808) : Ints W (some ⟨q, 0, none⟩) zs := fun k z hz => by
  obtain ⟨g, c', e, hlt, hc⟩ := h.get k z hz
  injection e with e1 e2 e3
  have e1 := Option.some.inj e1
  injection e1 with e4
  subst e4
  exact ⟨q, 0, rfl, hlt, by rw [Nat.zero_add]; exact hc, hw z (List.mem_of_getElem? hz)⟩
theorem IntsZ.holds {W : World} {q c : Nat} {zs : List Int} (h : IntsZ W (.slice (some ⟨q, 0, none⟩) zs.length c) zs) : Holds (Value.int .i64) W q 0 zs.toArray := by
  obtain ⟨_, _, e, _, _, _, _, h6⟩ := Lib.holds_of_ownsRow (enc := Value.int .i64) h.own (by simp)
  injection e with e1 e2 e3
  have e1 := Option.some.inj e1
  injection e1 with e4
  subst e4
  exact h6.2
end Go.Proofs.YtolpgpphjnkehaaGreatDoor.Cac
/- cache: rising, walked. -/
namespace Go.Proofs.YtolpgpphjnkehaaGreatDoor.Cac
set_option maxRecDepth 20000
open Go.RowKit Go.Sort Dsk
theorem nums_perm (V : List Nat) : ∃ V' : List Nat, nums V' = (nums V).mergeSort (fun x y => decide (x ≤ y)) ∧ V'.length = V.length ∧ ∀ z, z ∈ V' ↔ z ∈ V := by
  have hm : ∀ z ∈ (nums V).mergeSort (fun x y => decide (x ≤ y)), ∃ v ∈ V, (v : Int) = z := fun z hz => by
    rw [List.mem_mergeSort] at hz
    exact List.mem_map.1 hz
  have e : nums (((nums V).mergeSort (fun x y => decide (x ≤ y))).map Int.toNat) = (nums V).mergeSort (fun x y => decide (x ≤ y)) := by
    unfold nums
    rw [List.map_map]
    refine (List.map_congr_left (fun z hz => ?_)).trans (List.map_id _)
    obtain ⟨v, _, rfl⟩ := hm z hz
    rfl
  refine ⟨_, e, by rw [List.length_map, List.length_mergeSort, nums_len], fun z => ?_⟩
  have h1 : ∀ (l : List Nat) (z : Nat), z ∈ l ↔ (z : Int) ∈ nums l := fun l z => by
    unfold nums
    rw [List.mem_map]
    constructor
    · exact fun h => ⟨z, h, rfl⟩
    · rintro ⟨y, h, e⟩
      have : y = z := by omega
      rw [← this]; exact h
  rw [h1, e, List.mem_mergeSort, ← h1]
theorem sorted_back {w wr w2 : World} {q c n : Nat} {os : Array Obj} {V : List Nat} (h : RisI w wr (.slice (some ⟨q, 0, none⟩) V.length c) V) {ts : List Int} (hl : ts.length = V.length) (hw : ∀ z ∈ ts, -9223372036854775808 ≤ z ∧ z < 9223372036854775808)
    (he : w2 = Go.Sort.grow (putRow (Value.int .i64) (Sort.ahead wr n) q 0 ts.toArray) os) : Ints w2 (some ⟨q, 0, none⟩) ts ∧ Below w.heap.size w w2 ∧ w.heap.size ≤ q ∧ q < w2.heap.size := by
  subst he
  have hi := h.ints
  rw [← nums_len] at hi
  have hq : w.heap.size ≤ q := by rcases h.own q rfl with e | e <;> omega
  have hH := hi.holds
  have hH2 := holds_putRow (Value.int .i64) (Sort.ahead wr n) q 0 _ ts.toArray (holds_ahead _ wr n q 0 _ hH) (by simp [hl, nums_len])
  have hlt := hi.own_lt
  have hH3 := holds_grow (Value.int .i64) _ os q 0 _ (by simpa [putRow, mapBlock, Sort.ahead] using hlt) hH2
  have hg : wr.grownBy (Go.Sort.grow (putRow (Value.int .i64) (Sort.ahead wr n) q 0 ts.toArray) os) (some q) := grownBy_sortedI _
  refine ⟨fun k z hz => ?_, h.bel.grown hg h.bel.size (fun k e => by have := Option.some.inj e; omega), hq, Nat.lt_of_lt_of_le hlt hg.size⟩
  have hk := (List.getElem?_eq_some_iff.1 hz).1
  have hc := (hH3 k (by simpa using hk)).1
  refine ⟨q, 0, rfl, Nat.lt_of_lt_of_le hlt hg.size, ?_, hw z (List.mem_of_getElem? hz)⟩
  rw [hc]
  simp [hk]
  exact (List.getElem?_eq_some_iff.1 hz).2
set_option maxRecDepth 20000 in
set_option maxHeartbeats 2000000 in
theorem rising_any (g dg mb n most time : Nat) (E : Nat → Prop) (B : Nat → Nat) (L : List Fr) (w : World) (h : Cm w E g dg mb n B most time L) (hl : L.length ≤ 1024) :
    Calls Tryz.prog 159 #[.pointer (some ⟨g, 0, none⟩)] w fun e w' => ∃ q c V, e = .returned (.slice (some ⟨q, 0, none⟩) L.length c) ∧ (w.heap.size ≤ q ∧ q < w'.heap.size) ∧ Ints w' (some ⟨q, 0, none⟩) (nums V) ∧ V.length = L.length ∧ (∀ x ∈ L, x.s ∈ V) ∧ (∀ v ∈ V, ∃ x ∈ L, x.s = v) ∧ Below w.heap.size w w' := by
  obtain ⟨c0, c1, c2, c3, _⟩ := h.head.told
  obtain ⟨D, hown, hsz, hS⟩ := h.map
  have hglt := Blk.lt h.head
  have hmlt := h.map.lt
  have hlen := h.map.len
  have HH := Lib.hid h
  have HS := Lib.hid hS
  obtain ⟨l, hll⟩ : ∃ l, L.length = l := ⟨_, rfl⟩
  have HL := Lib.hid hll
  rw [hll] at hlen
  rw [hll]
  rw [hll] at hl
  have hmk := run_mkI0 l (by omega) w
  obtain ⟨w1, hw1⟩ : ∃ w1, w.alloc (.cells (madeCells #[.int .i64 0] l) 3) = w1 := ⟨_, rfl⟩
  have hsz1 : w1.heap.size = w.heap.size + 1 := by rw [← hw1, World.size_alloc]
  have hb1 : Below w.heap.size w w1 := by rw [← hw1]; exact (Below.refl _ _).alloc (Nat.le_refl _) _
  have hown1 : w1.ownsMap Tryz.prog 3 ptrR mb n D := by
    rw [← hw1]
    obtain ⟨es, clock, h1, h2⟩ := hown
    exact ⟨es, clock, (Below.heap_alloc w _ mb hmlt).trans h1, h2⟩
  have hown0 : IntsZ w1 (.slice (some ⟨w.heap.size, 0, none⟩) 0 l) (nums []) := ⟨by rw [← hw1]; exact World.ownsRow_made w _ l (Nat.zero_le _) (by unfold maxLen; omega) (by simp [madeCells])⟩
  have hc2 : w1.cell? ⟨g, 2, none⟩ = some (.map (some mb)) := (hb1.cell (p := ⟨g, 2, none⟩) hglt).trans c2
  have HO0 := Lib.hid hown0
  have HB1 := Lib.hid hb1
  simp only [hw1] at hmk
  clear h hS hsz hll hown hown0 hb1
  go_enter Tryz.func159, Tryz.ntmps159
  go_wp2_with (first
    | (at_range; refine wpList_range_own _ rfl _ 159 rfl 3 193 (Maps.int_keyed Tryz.underlying3) Tryz.underlying159 _ mb n D rfl hown1 ?_; intro w0 hrg0 hg0 hs0)
    | go_in)
  have hR0 : RisI w w0 (.slice (some ⟨w.heap.size, 0, none⟩) 0 l) [] := by
    have hsz0 : w.heap.size + 2 ≤ w0.heap.size := by rw [hs0, hsz1]; exact Nat.le_refl _
    exact ⟨HO0.out.same fun k hk => hg0.block k (HO0.out.lt k hk) (by simp), fun j hj => .inl (Option.some.inj hj).symm, ⟨_, _, rfl⟩,
      ⟨hg0.os.trans HB1.out.os, hg0.tape.trans HB1.out.tape, hg0.output.trans HB1.out.output, Nat.le_trans (Nat.le_add_right _ 2) hsz0, fun k hk => (hg0.block k (Nat.lt_of_lt_of_le hk HB1.out.size) (by simp)).trans (HB1.out.block k hk)⟩, hsz0⟩
  have HR0 := Lib.hid hR0
  have hall : ∀ x ∈ L, Maps.has D (.int .i64 (x.s : Int)) = true := fun x hx => by
    rw [(HS.out _ (WalkArith.wf_i64 (by have := (HH.out.secs x hx).2.1; omega))).2]
    unfold atS
    rw [Option.isSome_map, List.find?_isSome]
    exact ⟨x, hx, by simp⟩
  have HALL := Lib.hid hall
  have hr : w1.heap.size = w.heap.size + 1 := hsz1
  simp only [hr] at hrg0 ⊢
  clear hR0 hall hr hsz1 hs0 hg0 HB1 HO0 hw1 hown1 hlen
  clear hmk
  go_frame
  go_loopw [3, 4] (fun lv _ wr => ∃ (left : Lit → Bool) (cnt : Nat) (V : List Nat), wr.ranges Tryz.prog 3 ptrR mb (w.heap.size + 1) n D left cnt ∧ Hid (RisI w wr lv V) ∧ Hid (∀ z, left z = true → Maps.has D z = true) ∧ Hid (∀ x ∈ L, left (.int .i64 (x.s : Int)) = false → x.s ∈ V) ∧ Hid (∀ v ∈ V, ∃ x ∈ L, x.s = v) ∧ Hid (V.length = came (fun _ => true) left L))
    (fun _ _ wr => wr.rangeLeft mb (w.heap.size + 1))
  case atStart =>
    exact ⟨_, _, [], hrg0, HR0, Lib.hid (fun z h => h), Lib.hid (fun x hx h0 => by rw [HALL.out x hx] at h0; cases h0), Lib.hid (fun v hv => by cases hv), Lib.hid (by rw [came_none _ _ _ HALL.out]; rfl)⟩
  case round =>
    obtain ⟨left, cnt, V, hrg, HR, HSUB, HIN, HOF, HCT⟩ := hrel
    obtain ⟨q, c, hv⟩ := HR.out.blk
    have HV : Hid (V.length ≤ l) := Lib.hid (by rw [HCT.out, ← HL.out]; exact List.countP_le_length)
    obtain ⟨vn, hvn⟩ : ∃ vn, V.length = vn := ⟨_, rfl⟩
    rw [hvn] at hv
    have HVN := Lib.hid hvn
    have hvl : vn ≤ 1024 := by have := HV.out; omega
    subst hv
    clear hvn
    go_wp2_with (first
      | (at_next; refine next_ptr _ rfl _ rfl (atS B L) mb (w.heap.size + 1) n D left cnt HS.out HSUB.out rfl hrg ?_ ?_)
      | go_in)
    · intro hc0 hl0
      have hvl : vn = l := by rw [← HVN.out, HCT.out, came_all _ _ _ hl0, ← HL.out]; simp
      subst hvl
      obtain ⟨V', e1, e2, e3⟩ := nums_perm V
      have hi := HR.out.ints
      have hsl := slices_Sort_int q 0 c (nums V) wr (by
        have h5 : IntsZ wr (.slice (some ⟨q, 0, none⟩) (nums V).length c) (nums V) := by rw [nums_len, HVN.out]; exact hi
        exact h5.holds) hi.own_lt (by rw [nums_len, HVN.out]; omega)
      rw [nums_len, HVN.out] at hsl
      have HSL := Lib.hid hsl
      have HL0 := Lib.hid hl0
      have HE := Lib.hid (And.intro e1 (And.intro e2 e3))
      clear hrg hi hsl e1 e2 e3 hl0
      go_wp2_with fail
      refine HSL.out.mono ?_
      rintro e w2 ⟨rfl, nn, os, he⟩
      have HF := Lib.hid (show Ints w2 (some ⟨q, 0, none⟩) (nums V') ∧ Below w.heap.size w w2 ∧ w.heap.size ≤ q ∧ q < w2.heap.size by
        rw [← HE.out.1] at he
        exact sorted_back (by have := HR.out; rw [← HVN.out] at this; exact this) (by rw [nums_len, HE.out.2.1]) (fun z hz => by
          obtain ⟨v, hv, rfl⟩ := List.mem_map.1 hz
          obtain ⟨x, hx, rfl⟩ := HOF.out v ((HE.out.2.2 v).1 hv)
          have := (HH.out.secs x hx).2.1
          omega) he)
      clear he HSL
      go_wp2_with fail
      go_ret
      exact ⟨q, c, V', rfl, HF.out.2.2, HF.out.1, by rw [HE.out.2.1, HVN.out], fun x hx => (HE.out.2.2 _).2 (HIN.out x hx (HL0.out _)), fun v hv => HOF.out v ((HE.out.2.2 v).1 hv), HF.out.2.1⟩
    · intro x f w1 cnt1 hwx hlx hfx hrg1 hlt hg1 hs1 hen
      obtain ⟨y, hy, rfl, rfl⟩ := atS_some hfx
      have hR1 := HR.out.frame hg1
      obtain ⟨q', c', v', w5, e0, hrun, hR5, hg5⟩ := hR1.push y.s (by rw [HVN.out]; omega)
      rw [HVN.out] at e0
      have hrg5 := hrg1.kept hg5 (fun e => by rcases hR1.own mb e.symm with h1 | h1 <;> omega) (fun e => by rcases hR1.own _ e.symm with h1 | h1 <;> omega)
      have HSUB1 : Hid (∀ z, (left z && !z.sameKey (.int .i64 (y.s : Int))) = true → Maps.has D z = true) := Lib.hid (fun z hz => HSUB.out z (by
        cases hh : left z with
        | true => rfl
        | false => rw [hh] at hz; cases hz))
      have s1 := came_step (fun _ => true) left y L HH.out.nodup hy hlx
      have HS1 : Hid ((V ++ [y.s]).length = came (fun _ => true) (fun z => left z && !z.sameKey (.int .i64 (y.s : Int))) L) := Lib.hid (by rw [s1, List.length_append, HCT.out]; rfl)
      have HIN1 : Hid (∀ x ∈ L, (left (.int .i64 (x.s : Int)) && !(Lit.int .i64 (x.s : Int)).sameKey (.int .i64 (y.s : Int))) = false → x.s ∈ V ++ [y.s]) := Lib.hid (fun x hx hz => by
        by_cases e : x.s = y.s
        · rw [e]; simp
        · have hs : (Lit.int .i64 (x.s : Int)).sameKey (.int .i64 (y.s : Int)) = false := by rw [same_int]; simp; omega
          rw [hs] at hz
          exact List.mem_append.2 (.inl (HIN.out x hx (by simpa using hz))))
      have HOF1 : Hid (∀ v ∈ V ++ [y.s], ∃ x ∈ L, x.s = v) := Lib.hid (fun v hv => by
        rcases List.mem_append.1 hv with hv | hv
        · exact HOF.out v hv
        · rw [List.mem_singleton.1 hv]; exact ⟨y, hy, rfl⟩)
      have HR5 := Lib.hid hR5
      have HRG := Lib.hid hrg
      have HRG5 := Lib.hid hrg5
      have HLT := Lib.hid hlt
      have HRUN := Lib.hid hrun
      obtain ⟨bf, hbf⟩ : ∃ bf, B y.s = bf := ⟨_, rfl⟩
      rw [hbf] at hen ⊢
      clear hfx hy hwx hlx hg1 hs1 hbf s1 hrg hrg1 hrg5 hR1 hR5 hg5 hrun hlt e0
      go_wp2_with (at_builtin; refine wpList_app rfl _ _ 33 rfl _ _ _ _ rfl rfl HRUN.out ?_; clear HRUN)
      go_roundw
      case rel => exact ⟨_, cnt1, V ++ [y.s], HRG5.out, HR5, HSUB1, HIN1, HOF1, HS1⟩
      case measure => rw [HRG5.out.left_eq, HRG.out.left_eq]; exact HLT.out
end Go.Proofs.YtolpgpphjnkehaaGreatDoor.Cac
/- cache: bring. -/
namespace Go.Proofs.YtolpgpphjnkehaaGreatDoor.Cac
set_option maxRecDepth 20000
open Go.RowKit Dsk
section
variable {w0 w w' : World} {X E E' : Nat → Prop} {g dg mb n n' most time time' : Nat} {B B' : Nat → Nat} {L L' : List Fr} {D : DS}
theorem Cm.add2 (h : Cm w E g dg mb n B most time L) (hEl : ∀ k, E k → k < w.heap.size) (y : Fr) (f : Nat) (v : Value) (hno : ∀ x ∈ L, x.s ≠ y.s) (hh : CHead w' g dg mb most time')
    (hf : Frm w' f v y.dirty y.pins y.used) (hv : Sec w' (fun k => w.heap.size ≤ k ∧ k < w'.heap.size ∧ k ≠ f) v y.b) (hfl : w.heap.size ≤ f) (hs : y.b.length = 256 ∧ y.s < 1000000 ∧ y.pins < 1000000000)
    (hm : PMap w' mb (n + 1) (if (atS B L (y.s : Int)).isSome then L.length else L.length + 1) (fun j => if j = (y.s : Int) then some f else atS B L j)) (ho : Off (fun k => k = mb ∨ k = g) w w') :
    Cm w' (fun k => E k ∨ (w.heap.size ≤ k ∧ k < w'.heap.size ∧ k ≠ f)) g dg mb (n + 1) (addB B y.s f) most time' (L ++ [y]) := by
  have hlt : ∀ x ∈ L, B x.s < w.heap.size := fun x hx => by obtain ⟨v, h1, _⟩ := h.frm x hx; exact Blk.lt h1
  have hgl := Blk.lt h.head
  have hml := h.map.lt
  have hc : ∀ x ∈ L ++ [y], (x ∈ L ∧ addB B y.s f x.s = B x.s) ∨ (x = y ∧ addB B y.s f x.s = f) := fun x hx => by
    rcases List.mem_append.1 hx with hx | hx
    · exact .inl ⟨hx, addB_other B (hno x hx)⟩
    · rw [List.mem_singleton.1 hx]; exact .inr ⟨rfl, addB_same B _ _⟩
  rw [atS_none hno, atS_add B y f L hno] at hm
  refine ⟨hh, by rw [List.length_append]; exact hm, fun x hx => ?_, fun x hx => ?_, ?_, fun x hx z hz e => ?_, fun x hx => ?_, fun e => ?_, fun e => ?_, h.ne⟩
  · rcases hc x hx with ⟨hx, e⟩ | ⟨rfl, e⟩
    · rw [e]
      obtain ⟨u, h1, h2⟩ := h.frm x hx
      exact ⟨u, Blk.same h1 (ho.block _ (Blk.lt h1) (fun e => by rcases e with e | e; exact (h.apart x hx).2.1 e; exact (h.apart x hx).1 e)), (h2.same ho.size (fun k hk hl => ho.block k hl (fun e => by rcases e with e | e; exact h.e2 (e ▸ hk); exact h.e1 (e ▸ hk)))).mono fun k hk => .inl hk⟩
    · rw [e]
      exact ⟨v, hf, hv.mono fun k hk => .inr hk⟩
  · rcases hc x hx with ⟨hx, _⟩ | ⟨rfl, _⟩
    · exact h.secs x hx
    · exact hs
  · rw [List.pairwise_append]
    exact ⟨h.nodup, List.pairwise_singleton _ _, fun a ha b hb => by rw [List.mem_singleton.1 hb]; exact hno a ha⟩
  · rcases hc x hx with ⟨hx', e1⟩ | ⟨ex, e1⟩
    · rcases hc z hz with ⟨hz', e2⟩ | ⟨ez, e2⟩
      · exact h.inj x hx' z hz' (by rw [← e1, ← e2]; exact e)
      · rw [e1, e2] at e; have := hlt x hx'; omega
    · rcases hc z hz with ⟨hz', e2⟩ | ⟨ez, e2⟩
      · rw [e1, e2] at e; have := hlt z hz'; omega
      · rw [ex, ez]
  · rcases hc x hx with ⟨hx, e1⟩ | ⟨rfl, e1⟩
    · rw [e1]
      exact ⟨(h.apart x hx).1, (h.apart x hx).2.1, fun e => by
        rcases e with e | e
        · exact (h.apart x hx).2.2 e
        · have := hlt x hx; omega⟩
    · rw [e1]
      exact ⟨by omega, by omega, fun e => by
        rcases e with e | e
        · have := hEl _ e; omega
        · exact e.2.2 rfl⟩
  · rcases e with e | e
    · exact h.e1 e
    · omega
  · rcases e with e | e
    · exact h.e2 e
    · omega
theorem RunC.elt (h : RunC w0 w X g dg mb n most time B L D E) : ∀ k, E k → k < w.heap.size := fun k hk => h.run.lt k (.inr (.inr (.inr (.inl hk))))
theorem RunC.moved {w' : World} {B' : Nat → Nat} {L' : List Fr} {E' : Nat → Prop} {n' time' : Nat} (h : RunC w0 w X g dg mb n most time B L D E) (hc : Cm w' E' g dg mb n' B' most time' L') {G : Nat → Prop} (ho : Off G w w') (hG : ∀ k, G k → zone E g mb B L k)
    (hz : ∀ k, zone E' g mb B' L' k → zone E g mb B L k ∨ (w.heap.size ≤ k ∧ k < w'.heap.size)) : RunC w0 w' X g dg mb n' most time' B' L' D E' ∧ Keep X w w' := by
  refine ⟨⟨hc, h.run.turn ho (fun k e => ⟨.inr (hG k e), (h.far k (hG k e)).1⟩) _ (fun k hk => ?_), fun k hk => ?_⟩, ⟨ho.size, fun k hk => ho.block k (h.run.lt k (.inl hk)) (fun e => (h.far k (hG k e)).2 hk)⟩⟩
  · rcases hk with hk | hk
    · exact .inl (.inl hk)
    · rcases hz k hk with hk | hk
      · exact .inl (.inr hk)
      · exact .inr hk
  · rcases hz k hk with hk | hk
    · exact h.far k hk
    · exact ⟨by have := h.run.size; omega, fun hx => by have := h.run.lt k (.inl hx); omega⟩
/-- A frame more, apart from the world's steps. -/
theorem RunC.added {w' : World} {time' : Nat} (h : RunC w0 w X g dg mb n most time B L D E) (y : Fr) (f : Nat) (v : Value) (hno : ∀ x ∈ L, x.s ≠ y.s) (hh : CHead w' g dg mb most time')
    (hf : Frm w' f v y.dirty y.pins y.used) (hv : Sec w' (fun k => w.heap.size ≤ k ∧ k < w'.heap.size ∧ k ≠ f) v y.b) (hfl : w.heap.size ≤ f) (hs : y.b.length = 256 ∧ y.s < 1000000 ∧ y.pins < 1000000000)
    (hm : PMap w' mb (n + 1) (if (atS B L (y.s : Int)).isSome then L.length else L.length + 1) (fun j => if j = (y.s : Int) then some f else atS B L j)) (ho : Off (fun k => k = mb ∨ k = g) w w') :
    ∃ E', RunC w0 w' X g dg mb (n + 1) most time' (addB B y.s f) (L ++ [y]) D E' ∧ Keep X w w' := by
  have hc := h.cm.add2 h.elt y f v hno hh hf hv hfl hs hm ho
  have hfs : f < w'.heap.size := Blk.lt hf
  refine ⟨_, h.moved hc ho (fun k e => by rcases e with e | e; exact .inr (.inl e); exact .inl e) (fun k hk => ?_)⟩
  rcases hk with hk | hk | hk | ⟨x, hx, hk⟩
  · exact .inl (.inl hk)
  · exact .inl (.inr (.inl hk))
  · rcases hk with hk | hk
    · exact .inl (.inr (.inr (.inl hk)))
    · exact .inr ⟨hk.1, hk.2.1⟩
  · rcases List.mem_append.1 hx with hx | hx
    · rw [addB_other B (hno x hx)] at hk
      exact .inl (.inr (.inr (.inr ⟨x, hx, hk⟩)))
    · rw [List.mem_singleton.1 hx, addB_same] at hk
      exact .inr (by omega)
/-- use. -/
theorem RunC.use (h : RunC w0 w X g dg mb n most time B L D E) {x : Fr} (hx : x ∈ L) (ht : time < 1000000) :
    Calls Tryz.prog 156 #[.pointer (some ⟨g, 0, none⟩), .pointer (some ⟨B x.s, 0, none⟩)] w fun e w' => e = .returned (.tuple #[]) ∧ ∃ E', RunC w0 w' X g dg mb n most (time + 1) B (updL { x with used := time + 1 } L) D E' ∧ Keep X w w' := by
  obtain ⟨v, hf, hv⟩ := h.cm.frm x hx
  have hap := h.cm.apart x hx
  refine (cuse_any g dg mb most time (B x.s) x.pins x.used v x.dirty w h.cm.head hf (fun e => hap.1 e.symm) (by omega)).mono ?_
  rintro e w' ⟨rfl, h1, h2, h3, h4⟩
  have ho : Off (fun k => k = B x.s ∨ k = g) w w' := h3.mono fun k _ e => e.symm
  refine ⟨rfl, _, h.turned (y := { x with used := time + 1 }) ⟨x, hx, rfl⟩ (h.cm.upd { x with used := time + 1 } v ⟨x, hx, rfl⟩ ho h1 h2 ?_ ⟨(h.cm.secs x hx).1, (h.cm.secs x hx).2.2⟩) ho⟩
  exact (hv.same ho.size (fun k hk hl => ho.block k hl (fun e => by
    rcases e with e | e
    · exact hap.2.2 (e ▸ hk)
    · exact h.cm.e1 (e ▸ hk)))).mono fun k hk => grow.old hk
/-- makeRoom, over a disk whose power stays. -/
theorem room_any {nn t : Nat} (h : RunC w0 w X g dg mb n most time B L D E) (hst : Sta nn most t D L) (ht : t < 1000000) :
    Calls Tryz.prog 155 #[.pointer (some ⟨g, 0, none⟩)] w fun e w' =>
      (e = .returned (.int .i64 3) ∧ (most ≤ L.length ∧ ∀ x ∈ L, x.pins ≠ 0) ∧ RunC w0 w' X g dg mb n most time B L D E ∧ Keep X w w') ∨
      ∃ D' L', e = .returned (.int .i64 0) ∧ Room most D L D' L' ∧ RunC w0 w' X g dg mb n most time B L' D' E ∧ Keep X w w' := by
  by_cases hl : L.length < most
  · refine (room_yes h hl).mono ?_
    rintro e w' ⟨rfl, h1⟩
    exact .inr ⟨D, L, rfl, .inl ⟨hl, rfl, rfl⟩, h1⟩
  · have hl' : most ≤ L.length := by omega
    refine (room_no h hl' (by have := hst.hale.P; omega) (by have := hst.hale.steps; omega)).mono ?_
    rintro e w' (⟨h1, rfl, h2⟩ | ⟨x, hx, hp, rfl, h2⟩)
    · exact .inl ⟨rfl, ⟨hl', h1⟩, h2⟩
    · rw [hst.outL hx] at h2
      exact .inr ⟨_, _, by rw [hst.outE hx], .inr ⟨hl', x, hx, hp, rfl, rfl⟩, h2⟩
end
/-- A sector brought into a frame. -/
def Brought (most : Nat) (D : DS) (L : List Fr) (s : Nat) (D' : DS) (L' : List Fr) (y : Fr) : Prop :=
  (∃ x ∈ L, x.s = s ∧ y = { x with used := y.used } ∧ D' = D ∧ L' = updL y L) ∨
  ((∀ x ∈ L, x.s ≠ s) ∧ ∃ L1, Room most D L D' L1 ∧ y = ⟨s, readS D' s, false, 0, y.used⟩ ∧ L' = L1 ++ [y])
theorem Brought.sec {most s : Nat} {D D' : DS} {L L' : List Fr} {y : Fr} (h : Brought most D L s D' L' y) : y.s = s := by
  rcases h with ⟨x, _, e, ey, _⟩ | ⟨_, L1, _, ey, _⟩
  · rw [ey]; exact e
  · rw [ey]
section
variable {w0 w : World} {X E : Nat → Prop} {g dg mb n most time : Nat} {B : Nat → Nat} {L : List Fr} {D : DS}
set_option maxRecDepth 20000 in
theorem bring_yes (h : RunC w0 w X g dg mb n most time B L D E) {x : Fr} (hx : x ∈ L) (ht : time < 1000000) :
    Calls Tryz.prog 145 #[.pointer (some ⟨g, 0, none⟩), .int .i64 (x.s : Int)] w fun e w' => e = .returned (.tuple #[.pointer (some ⟨B x.s, 0, none⟩), .int .i64 0]) ∧ ∃ E', RunC w0 w' X g dg mb n most (time + 1) B (updL { x with used := time + 1 } L) D E' ∧ Keep X w w' := by
  have hl := h.cm.look_yes hx
  obtain ⟨c0, c1, c2, c3, _⟩ := h.cm.head.told
  have HU := Lib.hid (h.use hx ht)
  clear h hx ht
  go_enter Tryz.func145, Tryz.ntmps145
  go_wp2_with fail
  refine HU.out.mono ?_
  rintro e w' ⟨rfl, h1⟩
  have H1 := Lib.hid h1
  clear h1
  go_wp2_with fail
  go_ret2
  exact ⟨rfl, H1.out⟩
set_option maxRecDepth 20000 in
set_option maxHeartbeats 1000000 in
theorem bring_no {nn t s : Nat} (h : RunC w0 w X g dg mb n most time B L D E) (hst : Sta nn most t D L) (hs : s < nn) (hno : ∀ x ∈ L, x.s ≠ s) (ht : time < 1000000) (hn : n < 1000000) (htt : t < 1000000) (hm : 0 < most) :
    Calls Tryz.prog 145 #[.pointer (some ⟨g, 0, none⟩), .int .i64 (s : Int)] w fun e w' =>
      (e = .returned (.tuple #[.pointer none, .int .i64 3]) ∧ (most ≤ L.length ∧ ∀ x ∈ L, x.pins ≠ 0) ∧ RunC w0 w' X g dg mb n most time B L D E ∧ Keep X w w') ∨
      ∃ D' L1 f E', e = .returned (.tuple #[.pointer (some ⟨f, 0, none⟩), .int .i64 0]) ∧ Room most D L D' L1 ∧ RunC w0 w' X g dg mb (n + 1) most (time + 1) (addB B s f) (L1 ++ [⟨s, readS D' s, false, 0, time + 1⟩]) D' E' ∧ Keep X w w' := by
  have hsz : s < 4096 := by have := hst.top; omega
  have hwf := WalkArith.wf_i64 (n := (s : Int)) (by omega)
  have hl := h.cm.look_no hwf (atS_none hno)
  obtain ⟨c0, c1, c2, c3, _⟩ := h.cm.head.told
  have H1 := Lib.hid (room_any h hst htt)
  have HST := Lib.hid (And.intro hst (And.intro hs (And.intro hno hm)))
  clear h hst hs hno htt hm
  go_enter Tryz.func145, Tryz.ntmps145
  go_wp2_with fail
  refine H1.out.mono ?_
  rintro e w1 (⟨rfl, h1, h2⟩ | ⟨D1, L1, rfl, hr, h2, hk⟩)
  · have H2 := Lib.hid (And.intro h1 h2)
    clear h1 h2
    go_wp2_with fail
    go_ret2
    exact .inl ⟨rfl, H2.out⟩
  · obtain ⟨st1, hl1, hsub, _⟩ := hr.sta HST.out.1 HST.out.2.2.2
    have hno1 : ∀ x ∈ L1, x.s ≠ s := fun x hx => HST.out.2.2.1 x (hsub x hx)
    obtain ⟨hb256, he0⟩ := st1.hale.read HST.out.2.1
    have hrd := h2.run.read_yes (s : Int) he0
    rw [Int.toNat_natCast] at hrd
    obtain ⟨d0, d1, d2, d3, _⟩ := h2.cm.head.told
    obtain ⟨bs, hbs⟩ : ∃ bs, readS D1 s = bs := ⟨_, rfl⟩
    rw [hbs] at hrd hb256
    have HRD := Lib.hid hrd
    have HR := Lib.hid (And.intro hr (And.intro h2 (And.intro hk (And.intro hno1 (And.intro hb256 hbs)))))
    clear hr h2 hk hno1 hb256 hbs hrd st1 hl1 hsub he0 H1
    go_wp2_with fail
    refine HRD.out.mono ?_
    rintro e w2 ⟨rfl, hB, _, hrun, hbel⟩
    have hc2 := HR.out.2.1.cm.below hbel
    have hbel3 : Below w2.heap.size w2 (w2.alloc (.cells #[.slice (some ⟨w1.heap.size, 0, none⟩) 256 256, .bool false, .int .i64 0, .int .u64 0] 197)) := (Below.refl _ _).alloc (Nat.le_refl _) _
    have hc3 := hc2.below hbel3
    have hB3 := hB.below hbel3 hB.lt
    have hF3 : Frm (w2.alloc (.cells #[.slice (some ⟨w1.heap.size, 0, none⟩) 256 256, .bool false, .int .i64 0, .int .u64 0] 197)) w2.heap.size (.slice (some ⟨w1.heap.size, 0, none⟩) 256 256) false 0 0 := Blk.new w2 _ _
    obtain ⟨w4, hput, hm4, ho4⟩ := hc3.map.put (s : Int) w2.heap.size hwf hn
    have hgl := Blk.lt HR.out.2.1.cm.head
    have hml := HR.out.2.1.cm.map.lt
    have hg12 := hbel.size
    have hB1 := hB.lt
    have hF4 := Blk.same hF3 (ho4.block w2.heap.size (by rw [World.size_alloc]; omega) (fun e => by have e' : w2.heap.size = mb := e; omega))
    have hB4 := Blk.same hB3 (ho4.block w1.heap.size (by rw [World.size_alloc]; omega) (fun e => by have e' : w1.heap.size = mb := e; omega))
    have hH4 := Blk.same hc3.head (ho4.block g (by rw [World.size_alloc]; omega) HR.out.2.1.cm.ne)
    have hu := cuse_any g dg mb most time w2.heap.size 0 0 _ false w4 hH4 hF4 (by omega) (by omega)
    have ho14 : Off (fun k => k = mb ∨ k = g) w1 w4 := ((Off.of_new hbel _).trans ((Off.of_new (hbel3.mono (Nat.le_refl _)) _).trans (ho4.mono fun k _ e => .inl e)))
    have HF := Lib.hid (And.intro hm4 (And.intro hB4 (And.intro ho14 ho4.size)))
    have HU := Lib.hid hu
    have HN := Lib.hid (And.intro hgl (And.intro hml (And.intro hg12 hB1)))
    obtain ⟨e0, e1, e2, e3, _⟩ := hc3.head.told
    have d0' := (hbel.cell (p := ⟨g, 2, none⟩) hgl).trans d2
    clear hB hrun hbel hc2 hbel3 hc3 hB3 hF3 hm4 ho4 hgl hml hg12 hB1 hF4 hB4 hH4 hu ho14 HRD
    go_wp2_with (first
      | (go_at_call 156; refine HU.out.mono ?_)
      | fail)
    rintro e w5 ⟨rfl, k1, k2, k3, k4⟩
    have HA := Lib.hid (show ∃ E', RunC w0 w5 X g dg mb (n + 1) most (time + 1) (addB B s w2.heap.size) (L1 ++ [⟨s, bs, false, 0, time + 1⟩]) D1 E' ∧ Keep X w1 w5 by
      obtain ⟨hm4, hB4, ho14, hs4⟩ := HF.out
      obtain ⟨hgl, hml, hg12, hB1⟩ := HN.out
      rw [World.size_alloc] at hs4
      refine HR.out.2.1.added ⟨s, bs, false, 0, time + 1⟩ w2.heap.size (.slice (some ⟨w1.heap.size, 0, none⟩) 256 256) HR.out.2.2.2.1 k1 k2 (Sec.of_blk (g := w1.heap.size) (t := 5) (Blk.same hB4 (k3.block w1.heap.size (by omega) (fun e => by rcases e with e | e <;> omega))) ⟨Nat.le_refl _, by omega, by omega⟩ (by rw [HR.out.2.2.2.2.1]; unfold maxLen; omega) 256 HR.out.2.2.2.2.1) (by omega) ⟨HR.out.2.2.2.2.1, by show s < _; omega, by show (0 : Nat) < _; omega⟩ ?_ (ho14.then k3 (fun k hk e => by rcases e with e | e; exact .inr e; omega))
      exact hm4.same (k3.block mb (by omega) (fun e => by rcases e with e | e; exact HR.out.2.1.cm.ne e.symm; omega)))
    clear k1 k2 k3 k4 HU
    go_wp2_with fail
    go_ret2
    obtain ⟨E', q1, q2⟩ := HA.out
    exact .inr ⟨D1, L1, w2.heap.size, E', rfl, HR.out.1, by rw [HR.out.2.2.2.2.2]; exact q1, HR.out.2.2.1.trans q2⟩
end
end Go.Proofs.YtolpgpphjnkehaaGreatDoor.Cac
/- cache: a cache over a disk whose power stays; Read, Pin. -/
namespace Go.Proofs.YtolpgpphjnkehaaGreatDoor.Cac
set_option maxRecDepth 20000
open Go.RowKit Dsk
theorem updL_last {y0 y : Fr} {L : List Fr} (h : ∀ x ∈ L, x.s ≠ y.s) (e : y0.s = y.s) : updL y (L ++ [y0]) = L ++ [y] := by
  unfold updL
  rw [List.map_append]
  congr 1
  · refine (List.map_congr_left (fun x hx => ?_)).trans (List.map_id _)
    rw [if_neg (h x hx)]; rfl
  · simp [e]
theorem Brought.sta {nn most t s : Nat} {D D' : DS} {L L' : List Fr} {y : Fr} (h : Brought most D L s D' L' y) (hst : Sta nn most t D L) (hs : s < nn) (hm : 0 < most) :
    Sta nn most (t + 1) D' L' ∧ (∀ j, what D' L' j = what D L j) ∧ y.b = what D L s ∧ y ∈ L' ∧ y.s = s := by
  rcases h with ⟨x, hx, rfl, ey, rfl, rfl⟩ | ⟨hno, L1, hr, ey, rfl⟩
  · have e1 : y.s = x.s := by rw [ey]
    have e2 : y.b = x.b := by rw [ey]
    have e3 : y.pins = x.pins := by rw [ey]
    have e4 : y.dirty = x.dirty := by rw [ey]
    have hex : ∃ z ∈ L, z.s = y.s := ⟨x, hx, e1.symm⟩
    have hin := hst.inn x hx
    refine ⟨(hst.mono (Nat.le_succ _)).upd hex (fun hd => by rw [e1, e2]; exact hst.clean x hx (by rw [← e4]; exact hd)) (by rw [e3]; omega) (by rw [e2]; exact hin.2.2), fun j => ?_, by rw [what_yes hst.nodup hx, e2], updL_yes hex, e1⟩
    rw [what_upd hst.nodup hex]
    split
    · rename_i e; rw [e, e1, what_yes hst.nodup hx, e2]
    · rfl
  · obtain ⟨st1, hl, hsub, hw⟩ := hr.sta hst hm
    have hno1 : ∀ x ∈ L1, x.s ≠ y.s := fun x hx => by rw [ey]; exact hno x (hsub x hx)
    have e1 : y.s = s := by rw [ey]
    have e2 : y.b = readS D' s := by rw [ey]
    have hrd := st1.hale.read hs
    refine ⟨st1.add hno1 hl (by rw [e1]; exact hs) (fun _ => by rw [e2, e1]) (by rw [ey]; exact Nat.zero_le _) (by rw [e2]; exact hrd.1), fun j => ?_, ?_, by simp, e1⟩
    · rw [what_add st1.nodup hno1]
      split
      · rename_i e
        rw [e2, e, e1, ← hw, what_no (fun x hx => by have := hno1 x hx; rw [e1] at this; exact this)]
      · exact hw j
    · rw [e2, ← hw, what_no (fun x hx => by have := hno1 x hx; rw [e1] at this; exact this)]
section
variable {w0 w : World} {X E : Nat → Prop} {g dg mb n most time nn t s : Nat} {B : Nat → Nat} {L : List Fr} {D : DS}
theorem RunC.more {w' : World} (h : RunC w0 w X g dg mb n most time B L D E) (hb : Below w.heap.size w w') (Y : Nat → Prop) (hY : ∀ k, Y k → X k ∨ (w.heap.size ≤ k ∧ k < w'.heap.size)) : RunC w0 w' Y g dg mb n most time B L D E :=
  ⟨h.cm.below hb, h.run.add hb _ (fun k hk => by
      rcases hk with hk | hk
      · rcases hY k hk with h1 | h1
        · exact .inl (.inl h1)
        · exact .inr h1
      · exact .inl (.inr hk)),
    fun k hk => ⟨(h.far k hk).1, fun hy => by
      rcases hY k hy with h1 | h1
      · exact (h.far k hk).2 h1
      · have := h.run.lt k (.inr hk); omega⟩⟩
theorem bring_any (h : RunC w0 w X g dg mb n most time B L D E) (hst : Sta nn most t D L) (hs : s < nn) (ht : time < 1000000) (hn : n < 1000000) (htt : t < 1000000) (hm : 0 < most) :
    Calls Tryz.prog 145 #[.pointer (some ⟨g, 0, none⟩), .int .i64 (s : Int)] w fun e w' =>
      (e = .returned (.tuple #[.pointer none, .int .i64 3]) ∧ ((most ≤ L.length ∧ ∀ x ∈ L, x.pins ≠ 0) ∧ ∀ x ∈ L, x.s ≠ s) ∧ RunC w0 w' X g dg mb n most time B L D E ∧ Keep X w w') ∨
      ∃ D' L' y n' B' E', e = .returned (.tuple #[.pointer (some ⟨B' y.s, 0, none⟩), .int .i64 0]) ∧ Brought most D L s D' L' y ∧ RunC w0 w' X g dg mb n' most (time + 1) B' L' D' E' ∧ n' ≤ n + 1 ∧ Keep X w w' := by
  by_cases hx : ∃ x ∈ L, x.s = s
  · obtain ⟨x, hx, rfl⟩ := hx
    refine (bring_yes h hx ht).mono ?_
    rintro e w' ⟨rfl, E', h1, h2⟩
    exact .inr ⟨D, _, { x with used := time + 1 }, n, B, E', rfl, .inl ⟨x, hx, rfl, rfl, rfl, rfl⟩, h1, Nat.le_succ _, h2⟩
  · have hno : ∀ x ∈ L, x.s ≠ s := fun x h e => hx ⟨x, h, e⟩
    refine (bring_no h hst hs hno ht hn htt hm).mono ?_
    rintro e w' (⟨rfl, h1, h2⟩ | ⟨D', L1, f, E', rfl, h1, h2, h3⟩)
    · exact .inl ⟨rfl, ⟨h1, hno⟩, h2⟩
    · exact .inr ⟨D', _, ⟨s, readS D' s, false, 0, time + 1⟩, n + 1, _, E', by rw [addB_same], .inr ⟨hno, L1, h1, rfl, rfl⟩, h2, Nat.le_refl _, h3⟩
end
/-- A cache of the call's own over a disk whose power stays. -/
structure CS (w0 w : World) (X : Nat → Prop) (g dg nn most t : Nat) (D : DS) (L : List Fr) : Prop where
  ex : ∃ mb n time B E, RunC w0 w X g dg mb n most time B L D E ∧ n ≤ t ∧ time ≤ t
  st : Sta nn most t D L
  pos : 0 < most
/-- All frames are pinned, none is the sector's. -/
def Stuck (most : Nat) (L : List Fr) (s : Nat) : Prop := (most ≤ L.length ∧ ∀ x ∈ L, x.pins ≠ 0) ∧ ∀ x ∈ L, x.s ≠ s
section
variable {w0 w : World} {X : Nat → Prop} {g dg nn most t s : Nat} {L : List Fr} {D : DS}
theorem CS.more {w' : World} (h : CS w0 w X g dg nn most t D L) (hb : Below w.heap.size w w') (Y : Nat → Prop) (hY : ∀ k, Y k → X k ∨ (w.heap.size ≤ k ∧ k < w'.heap.size)) : CS w0 w' Y g dg nn most t D L := by
  obtain ⟨⟨mb, n, time, B, E, h1, h2⟩, h3, h4⟩ := h
  exact ⟨⟨mb, n, time, B, E, h1.more hb Y hY, h2⟩, h3, h4⟩
theorem CS.below {w' : World} (h : CS w0 w X g dg nn most t D L) (hb : Below w.heap.size w w') : CS w0 w' X g dg nn most t D L := h.more hb X fun _ h => .inl h
theorem CS.mono {u : Nat} (h : CS w0 w X g dg nn most t D L) (hu : t ≤ u) : CS w0 w X g dg nn most u D L := by
  obtain ⟨⟨mb, n, time, B, E, h1, h2, h5⟩, h3, h4⟩ := h
  exact ⟨⟨mb, n, time, B, E, h1, Nat.le_trans h2 hu, Nat.le_trans h5 hu⟩, h3.mono hu, h4⟩
theorem CS.less {Y : Nat → Prop} (h : CS w0 w X g dg nn most t D L) (hY : ∀ k, Y k → X k) : CS w0 w Y g dg nn most t D L := by
  obtain ⟨⟨mb, n, time, B, E, h1, h2⟩, h3, h4⟩ := h
  exact ⟨⟨mb, n, time, B, E, ⟨h1.cm, h1.run.less (fun k hk => hk.imp (hY k) id), fun k hk => ⟨(h1.far k hk).1, fun hy => (h1.far k hk).2 (hY k hy)⟩⟩, h2⟩, h3, h4⟩
theorem CS.lt (h : CS w0 w X g dg nn most t D L) : ∀ k, X k → k < w.heap.size := by
  obtain ⟨⟨mb, n, time, B, E, h1, h2⟩, h3, h4⟩ := h
  exact fun k hk => h1.run.lt k (.inl hk)
theorem CS.bel (h : CS w0 w X g dg nn most t D L) : Below w0.heap.size w0 w := by
  obtain ⟨⟨mb, n, time, B, E, h1, h2⟩, h3, h4⟩ := h
  exact h1.run.bel
theorem refS_in {D : DS} {s nn : Nat} (h : Hale nn t D) (hs : s < nn) : refS D (s : Int) = 0 := by
  unfold refS
  rw [h.dead, h.len, if_neg (by decide), if_neg (by omega)]
theorem refS_out {D : DS} {i : Int} (h : Hale nn t D) (hs : i < 0 ∨ (nn : Int) ≤ i) : refS D i = 1 := by
  unfold refS
  rw [h.dead, h.len, if_neg (by decide), if_pos hs]
theorem CS.refS_ (h : CS w0 w X g dg nn most t D L) (i : Int) : Calls Tryz.prog 144 #[.pointer (some ⟨g, 0, none⟩), .int .i64 i] w fun e w' => e = .returned (.int .i64 (refS D i : Int)) ∧ w = w' := by
  obtain ⟨⟨mb, n, time, B, E, h1, h2⟩, h3, h4⟩ := h
  obtain ⟨F, hD⟩ := h1.disk
  exact crefusesS_any g dg mb most time i F D w h1.cm.head hD
theorem CS.ref_ (h : CS w0 w X g dg nn most t D L) : Calls Tryz.prog 158 #[.pointer (some ⟨g, 0, none⟩)] w fun e w' => e = .returned (.int .i64 0) ∧ w = w' := by
  obtain ⟨⟨mb, n, time, B, E, h1, h2⟩, h3, h4⟩ := h
  obtain ⟨F, hD⟩ := h1.disk
  exact h1.cm.alive hD h3.hale.dead
theorem CS.read_bad (h : CS w0 w X g dg nn most t D L) (i : Int) (hi : i < 0 ∨ (nn : Int) ≤ i) :
    Calls Tryz.prog 88 #[.pointer (some ⟨g, 0, none⟩), .int .i64 i] w fun e w' => e = .returned (.tuple #[.slice none 0 0, .int .i64 1]) ∧ w = w' := by
  have H1 := h.refS_ i
  rw [refS_out h.st.hale hi] at H1
  replace H1 := Lib.hid H1
  clear h hi
  go_enter Tryz.func88, Tryz.ntmps88
  go_wp2_with fail
  refine H1.out.mono ?_
  rintro e w' ⟨rfl, rfl⟩
  go_wp2_with fail
  go_ret2
  exact ⟨rfl, rfl⟩
set_option maxRecDepth 20000 in
set_option maxHeartbeats 1000000 in
theorem CS.read (h : CS w0 w X g dg nn most t D L) (hs : s < nn) (ht : t < 900000) :
    Calls Tryz.prog 88 #[.pointer (some ⟨g, 0, none⟩), .int .i64 (s : Int)] w fun e w' =>
      (e = .returned (.tuple #[.slice none 0 0, .int .i64 3]) ∧ Stuck most L s ∧ CS w0 w' X g dg nn most t D L ∧ Keep X w w') ∨
      ∃ D' L' y q c, e = .returned (.tuple #[.slice (some ⟨q, 0, none⟩) 256 c, .int .i64 0]) ∧ Brought most D L s D' L' y ∧ Rw w' q 256 c y.b ∧ w.heap.size ≤ q ∧ CS w0 w' (fun k => X k ∨ k = q) g dg nn most (t + 1) D' L' ∧ Keep X w w' := by
  have H1 := h.refS_ (s : Int)
  rw [refS_in h.st.hale hs] at H1
  replace H1 := Lib.hid H1
  have hnn : s < 4096 := by have := h.st.top; omega
  obtain ⟨⟨mb, n, time, B, E, h1, h2, h5⟩, h3, h4⟩ := h
  have H2 := Lib.hid (bring_any h1 h3 hs (by omega) (by omega) (by omega) h4)
  have H3 := Lib.hid (And.intro h2 (And.intro h5 (And.intro h3 (And.intro h4 (And.intro hs h1.run.bel)))))
  clear h1 h2 h5 h3 h4 hs
  go_enter Tryz.func88, Tryz.ntmps88
  go_wp2_with fail
  refine H1.out.mono ?_
  rintro e w' ⟨rfl, rfl⟩
  go_wp2_with fail
  refine H2.out.mono ?_
  rintro e w1 (⟨rfl, k1, k2, k3⟩ | ⟨D', L', y, n', B', E', rfl, k1, k2, k3, k4⟩)
  · have HK := Lib.hid (show Stuck most L s ∧ CS w0 w1 X g dg nn most t D L ∧ Keep X w w1 from ⟨k1, ⟨⟨mb, n, time, B, E, k2, H3.out.1, H3.out.2.1⟩, H3.out.2.2.1, H3.out.2.2.2.1⟩, k3⟩)
    clear k1 k2 k3 H1 H2
    go_wp2_with fail
    go_ret2
    exact .inl ⟨rfl, HK.out⟩
  · obtain ⟨st', _, _, hy, _⟩ := k1.sta H3.out.2.2.1 H3.out.2.2.2.2.1 H3.out.2.2.2.1
    obtain ⟨v, hf, A, c, rfl, hc1, hc2, hby, _⟩ := k2.cm.frm y hy
    obtain ⟨f0, f1, f2, f3, _⟩ := hf.told
    have hl := (st'.inn y hy).2.2
    rw [hl] at f0
    obtain ⟨b, off, rfl, _, _⟩ := hby.at_ (k := 0) (by omega)
    have hcl := clone_any b off 256 c y.b w1 hl (by omega) (by omega) hby
    have HC := Lib.hid hcl
    have HK := Lib.hid (And.intro k1 (And.intro k2 (And.intro k3 (And.intro k4 st'))))
    obtain ⟨bf, hbf⟩ : ∃ bf, B' y.s = bf := ⟨_, rfl⟩
    rw [hbf] at f0
    rw [hbf]
    clear k1 k2 k3 k4 H1 H2 hy hf hc1 hc2 hby hl hcl f1 f2 f3 st' hbf
    go_wp2_with fail
    refine HC.out.mono ?_
    rintro e w2 ⟨q, cq, rfl, hrw, hq, hb2⟩
    have HF := Lib.hid (show Brought most D L s D' L' y ∧ Rw w2 q 256 cq y.b ∧ w.heap.size ≤ q ∧ CS w0 w2 (fun k => X k ∨ k = q) g dg nn most (t + 1) D' L' ∧ Keep X w w2 by
      obtain ⟨k1, k2, k3, k4, st'⟩ := HK.out
      have hk2 := k4.size
      exact ⟨k1, hrw, by omega, ⟨⟨mb, n', time + 1, B', E', k2.more hb2 _ (fun k hk => hk.imp id fun e => by have := hrw.lt; omega), by have := H3.out.1; omega, by have := H3.out.2.1; omega⟩, st', H3.out.2.2.2.1⟩, k4.trans ((k2.below hb2).2)⟩)
    clear hrw hq hb2
    go_wp2_with fail
    go_ret2
    exact .inr ⟨D', L', y, q, cq, rfl, HF.out⟩
end
end Go.Proofs.YtolpgpphjnkehaaGreatDoor.Cac
/- cache: Write. -/
namespace Go.Proofs.YtolpgpphjnkehaaGreatDoor.Cac
set_option maxRecDepth 20000
open Go.RowKit Dsk
/-- A frame filled up anew: the worlds between, and what is so in the last. -/
theorem fillup (w : World) (f g dg mb most time p u len cap : Nat) (v : Value) (d : Bool) (A : Option Addr) (bs : List UInt8) (hf : Frm w f v d p u) (hh : CHead w g dg mb most time) (hne : g ≠ f) (hl : bs.length = len) (h256 : len ≤ 256) (hby : Bytes w A bs) (hA : ∀ p : Addr, A = some p → p.block ≠ f) :
    ∃ w1 w2 w3 w4, (Instr.makeSlice 32 (.int .i64 256) (.int .i64 256)).run Tryz.prog w = .ok (.slice (some ⟨w.heap.size, 0, none⟩) 256 256) w1 ∧
      (w1.cell? ⟨f, 0, none⟩ = some v ∧ ∀ i, w1.frozen? ⟨f, i, none⟩ = false) ∧ w1.setCell ⟨f, 0, none⟩ (.slice (some ⟨w.heap.size, 0, none⟩) 256 256) = w2 ∧
      (w2.cell? ⟨f, 1, none⟩ = some (.bool d) ∧ ∀ i, w2.frozen? ⟨f, i, none⟩ = false) ∧ w2.setCell ⟨f, 1, none⟩ (.bool true) = w3 ∧
      w3.cell? ⟨f, 0, none⟩ = some (.slice (some ⟨w.heap.size, 0, none⟩) 256 256) ∧
      (Builtin.copy_ #[32, 32] 3 #[.slice (some ⟨w.heap.size, 0, none⟩) 256 256, .slice A len cap]).run Tryz.prog w3 = .ok (.int .i64 (len : Int)) w4 ∧
      CHead w4 g dg mb most time ∧ Frm w4 f (.slice (some ⟨w.heap.size, 0, none⟩) 256 256) true p u ∧ Blk w4 w.heap.size 5 (row8 (filled bs 256)) ∧ Off (fun k => k = f) w w4 := by
  have hfl := Blk.lt hf
  have hgl := Blk.lt hh
  obtain ⟨w1, hw1⟩ : ∃ w1, w.alloc (.cells (mk8 256) 5) = w1 := ⟨_, rfl⟩
  have hmk := run_mk8 256 (by omega) w
  rw [hw1] at hmk
  have hb1 : Below w.heap.size w w1 := by rw [← hw1]; exact (Below.refl _ _).alloc (Nat.le_refl _) _
  have hN1 : Blk w1 w.heap.size 5 (List.replicate 256 (bv 0)).toArray := by rw [← hw1, ← mk8_eq]; exact Blk.new _ _ _
  have hF1 : Frm w1 f v d p u := Blk.below hf hb1 hfl
  have hH1 : CHead w1 g dg mb most time := Blk.below hh hb1 hgl
  have hY1 := hby.below hb1
  obtain ⟨w2, hw2⟩ : ∃ w2, w1.setCell ⟨f, 0, none⟩ (.slice (some ⟨w.heap.size, 0, none⟩) 256 256) = w2 := ⟨_, rfl⟩
  have hF2 : Frm w2 f (.slice (some ⟨w.heap.size, 0, none⟩) 256 256) d p u := by rw [← hw2]; exact Blk.set_ hF1 0 _
  have hH2 : CHead w2 g dg mb most time := by rw [← hw2]; exact Blk.far hH1 (p := ⟨f, 0, none⟩) hne _
  have hN2 : Blk w2 w.heap.size 5 (List.replicate 256 (bv 0)).toArray := by rw [← hw2]; exact Blk.far hN1 (p := ⟨f, 0, none⟩) (by show w.heap.size ≠ f; omega) _
  have ho2 : Off (fun k => k = f) w1 w2 := by rw [← hw2]; exact Off.setc _ _ _ _
  obtain ⟨w3, hw3⟩ : ∃ w3, w2.setCell ⟨f, 1, none⟩ (.bool true) = w3 := ⟨_, rfl⟩
  have hF3 : Frm w3 f (.slice (some ⟨w.heap.size, 0, none⟩) 256 256) true p u := by rw [← hw3]; exact Blk.set_ hF2 1 _
  have hH3 : CHead w3 g dg mb most time := by rw [← hw3]; exact Blk.far hH2 (p := ⟨f, 1, none⟩) hne _
  have hN3 : Blk w3 w.heap.size 5 (List.replicate 256 (bv 0)).toArray := by rw [← hw3]; exact Blk.far hN2 (p := ⟨f, 1, none⟩) (by show w.heap.size ≠ f; omega) _
  have ho3 : Off (fun k => k = f) w1 w3 := ho2.trans (by rw [← hw3]; exact Off.setc _ _ _ _)
  have hY3 : Bytes w3 A bs := hY1.same ho3.size (fun q e hq => ho3.block _ hq (hA q e))
  obtain ⟨w4, hcp, hN4, hg4, hs4⟩ := run_copy8 w3 3 w.heap.size 256 256 A cap bs _ hY3 hN3 (by omega) (by rw [List.length_replicate]; exact Nat.le_refl _)
  rw [hl] at hcp
  have eN : bs.map bv ++ (List.replicate 256 (bv 0)).drop bs.length = (filled bs 256).map bv := by
    unfold filled
    rw [List.map_append, List.map_replicate, List.drop_replicate]
  rw [eN] at hN4
  obtain ⟨a0, a1, a2, a3, af⟩ := hF1.told
  obtain ⟨b0, b1, b2, b3, bf⟩ := hF2.told
  obtain ⟨d0, d1, d2, d3, df⟩ := hF3.told
  have hg4o : Off (fun k => k = w.heap.size) w3 w4 := (Off.of_grown hg4).mono fun k _ e => (Option.some.inj e).symm
  exact ⟨w1, w2, w3, w4, hmk, ⟨a0, af⟩, hw2, ⟨b1, bf⟩, hw3, d0, hcp, Blk.same hH3 (hg4o.block g (Blk.lt hH3) (by omega)), Blk.same hF3 (hg4o.block f (Blk.lt hF3) (by omega)), hN4,
    ((Off.of_new hb1 _).trans ho3).then hg4o (fun j hj e => by omega)⟩
/-- A sector written into a frame. -/
def Wrote (most : Nat) (D : DS) (L : List Fr) (s : Nat) (b : List UInt8) (D' : DS) (L' : List Fr) (y : Fr) : Prop :=
  (∃ x ∈ L, x.s = s ∧ y = { x with b := b, dirty := true, used := y.used } ∧ D' = D ∧ L' = updL y L) ∨
  ((∀ x ∈ L, x.s ≠ s) ∧ ∃ L1, Room most D L D' L1 ∧ y = ⟨s, b, true, 0, y.used⟩ ∧ L' = L1 ++ [y])
theorem Wrote.sta {nn most t s : Nat} {D D' : DS} {L L' : List Fr} {y : Fr} {b : List UInt8} (h : Wrote most D L s b D' L' y) (hst : Sta nn most t D L) (hs : s < nn) (hm : 0 < most) (hb : b.length = 256) :
    Sta nn most (t + 1) D' L' ∧ (∀ j, what D' L' j = if j = s then b else what D L j) ∧ y ∈ L' ∧ y.s = s := by
  rcases h with ⟨x, hx, rfl, ey, rfl, rfl⟩ | ⟨hno, L1, hr, ey, rfl⟩
  · have e1 : y.s = x.s := by rw [ey]
    have e2 : y.b = b := by rw [ey]
    have e3 : y.pins = x.pins := by rw [ey]
    have e4 : y.dirty = true := by rw [ey]
    have hex : ∃ z ∈ L, z.s = y.s := ⟨x, hx, e1.symm⟩
    have hin := hst.inn x hx
    refine ⟨(hst.mono (Nat.le_succ _)).upd hex (fun hd => by rw [e4] at hd; cases hd) (by rw [e3]; omega) (by rw [e2]; exact hb), fun j => ?_, updL_yes hex, e1⟩
    rw [what_upd hst.nodup hex, e1, e2]
  · obtain ⟨st1, hl, hsub, hw⟩ := hr.sta hst hm
    have hno1 : ∀ x ∈ L1, x.s ≠ y.s := fun x hx => by rw [ey]; exact hno x (hsub x hx)
    have e1 : y.s = s := by rw [ey]
    have e2 : y.b = b := by rw [ey]
    refine ⟨st1.add hno1 hl (by rw [e1]; exact hs) (fun hd => by rw [ey] at hd; cases hd) (by rw [ey]; exact Nat.zero_le _) (by rw [e2]; exact hb), fun j => ?_, by simp, e1⟩
    rw [what_add st1.nodup hno1, e1, e2, hw]
section
variable {w0 w : World} {X : Nat → Prop} {g dg nn most t s : Nat} {L : List Fr} {D : DS}
theorem CS.write_bad (h : CS w0 w X g dg nn most t D L) (i : Int) (A : Option Addr) (len cap : Nat) (hi : i < 0 ∨ (nn : Int) ≤ i) :
    Calls Tryz.prog 96 #[.pointer (some ⟨g, 0, none⟩), .int .i64 i, .slice A len cap] w fun e w' => e = .returned (.int .i64 1) ∧ w = w' := by
  have H1 := h.refS_ i
  rw [refS_out h.st.hale hi] at H1
  replace H1 := Lib.hid H1
  clear h hi
  go_enter Tryz.func96, Tryz.ntmps96
  go_wp2_with fail
  refine H1.out.mono ?_
  rintro e w' ⟨rfl, rfl⟩
  go_wp2_with fail
  go_ret
  exact ⟨rfl, rfl⟩
theorem CS.write_long (h : CS w0 w X g dg nn most t D L) (A : Option Addr) (len cap : Nat) (hs : s < nn) (hl : 256 < len) :
    Calls Tryz.prog 96 #[.pointer (some ⟨g, 0, none⟩), .int .i64 (s : Int), .slice A len cap] w fun e w' => e = .returned (.int .i64 1) ∧ w = w' := by
  have H1 := h.refS_ (s : Int)
  rw [refS_in h.st.hale hs] at H1
  replace H1 := Lib.hid H1
  have hd : decide ((len : Int) > 256) = true := by simp; omega
  clear h hs hl
  go_enter Tryz.func96, Tryz.ntmps96
  go_wp2_with fail
  refine H1.out.mono ?_
  rintro e w' ⟨rfl, rfl⟩
  go_wp2_with fail
  go_ret
  exact ⟨rfl, rfl⟩
set_option maxRecDepth 20000 in
set_option maxHeartbeats 1000000 in
theorem CS.write_yes (h : CS w0 w X g dg nn most t D L) (A : Option Addr) (len cap : Nat) (bs : List UInt8) (ht : t < 900000) (hl : bs.length = len) (h256 : len ≤ 256) (hby : Bytes w A bs) (hAX : ∀ p : Addr, A = some p → X p.block) {x : Fr} (hx : x ∈ L) :
    Calls Tryz.prog 96 #[.pointer (some ⟨g, 0, none⟩), .int .i64 (x.s : Int), .slice A len cap] w fun e w' =>
      ∃ D' L' y, e = .returned (.int .i64 0) ∧ Wrote most D L x.s (filled bs 256) D' L' y ∧ CS w0 w' X g dg nn most (t + 1) D' L' ∧ Keep X w w' := by
  have H1 := h.refS_ (x.s : Int)
  have hxn := (h.st.inn x hx).1
  rw [refS_in h.st.hale hxn] at H1
  replace H1 := Lib.hid H1
  have hst := h.st
  have hpos := h.pos
  obtain ⟨⟨mb, n, time, B, E, h1, h2, h5⟩, _, _⟩ := h
  have hlk := h1.cm.look_yes hx
  obtain ⟨c0, c1, c2, c3, _⟩ := h1.cm.head.told
  obtain ⟨v, hf, _⟩ := h1.cm.frm x hx
  have hap := h1.cm.apart x hx
  have hzx : zone E g mb B L (B x.s) := .inr (.inr (.inr ⟨x, hx, rfl⟩))
  obtain ⟨w1, w2, w3, w4, hmk, ⟨a0, af⟩, hw2, ⟨b1, bf⟩, hw3, d0, hcp, hH4, hF4, hN4, ho4⟩ := fillup w (B x.s) g dg mb most time x.pins x.used len cap v x.dirty A bs hf h1.cm.head (fun e => hap.1 e.symm) hl h256 hby (fun p e hp => (h1.far _ hzx).2 (by rw [← hp]; exact hAX p e))
  have hu := cuse_any g dg mb most time (B x.s) x.pins x.used _ true w4 hH4 hF4 (fun e => hap.1 e.symm) (by omega)
  have HU := Lib.hid hu
  have HF := Lib.hid (And.intro hN4 (And.intro ho4 (And.intro h1 (And.intro hst (And.intro hx (And.intro h2 (And.intro h5 (And.intro hpos (Blk.lt hf)))))))))
  have hd : decide ((len : Int) > 256) = false := by simp; omega
  have HLB := Lib.hid (filled_length bs 256 (by omega))
  have HT := Lib.hid ht
  obtain ⟨b, hb⟩ : ∃ b, filled bs 256 = b := ⟨_, rfl⟩
  rw [hb] at HF HLB
  rw [hb]
  obtain ⟨f, hff⟩ : ∃ f, B x.s = f := ⟨_, rfl⟩
  have HFF := Lib.hid hff
  rw [hff] at hlk a0 af hw2 b1 bf hw3 d0 HU
  clear h1 h2 h5 hst hpos hx hf hap hzx hH4 hF4 hN4 ho4 hu hby hAX hl hb hff hxn ht
  go_enter Tryz.func96, Tryz.ntmps96
  go_wp2_with fail
  refine H1.out.mono ?_
  rintro e w' ⟨rfl, rfl⟩
  go_wp2_with fail
  refine HU.out.mono ?_
  rintro e w5 ⟨rfl, k1, k2, k3, k4⟩
  have HR := Lib.hid (show ∃ D' L' y, Wrote most D L x.s b D' L' y ∧ CS w0 w5 X g dg nn most (t + 1) D' L' ∧ Keep X w w5 by
    obtain ⟨hN4, ho4, h1, hst, hx, h2, h5, hpos, hfl⟩ := HF.out
    have hap := h1.cm.apart x hx
    rw [HFF.out] at hap ho4 hfl
    have ho : Off (fun k => k = B x.s ∨ k = g) w w5 := by
      rw [HFF.out]
      exact (ho4.mono fun k _ e => .inl e).trans (k3.mono fun k _ e => e.symm)
    have hsz : w.heap.size < w4.heap.size := hN4.lt
    have hN5 : Blk w5 w.heap.size 5 (row8 b) := Blk.same hN4 (k3.block _ hsz (fun e => by have hgl := Blk.lt h1.cm.head; rcases e with e | e <;> omega))
    have hc := h1.cm.upd { x with b := b, dirty := true, used := time + 1 } (.slice (some ⟨w.heap.size, 0, none⟩) 256 256) ⟨x, hx, rfl⟩ ho k1 (by show Frm w5 (B x.s) _ _ _ _; rw [HFF.out]; exact k2)
      (Sec.of_blk hN5 (.inr ⟨Nat.le_refl _, by omega⟩) (by rw [HLB.out]; unfold maxLen; omega) 256 HLB.out) ⟨HLB.out, (h1.cm.secs x hx).2.2⟩
    obtain ⟨q1, q2⟩ := h1.turned (y := { x with b := b, dirty := true, used := time + 1 }) ⟨x, hx, rfl⟩ hc ho
    have hW : Wrote most D L x.s b D (updL { x with b := b, dirty := true, used := time + 1 } L) { x with b := b, dirty := true, used := time + 1 } := .inl ⟨x, hx, rfl, rfl, rfl, rfl⟩
    exact ⟨D, _, _, hW, ⟨⟨mb, n, time + 1, B, _, q1, by omega, by omega⟩, (hW.sta hst (hst.inn x hx).1 hpos HLB.out).1, hpos⟩, q2⟩)
  clear k1 k2 k3 k4 HU
  go_wp2_with fail
  go_ret
  obtain ⟨D', L', y, q⟩ := HR.out
  exact ⟨D', L', y, rfl, q⟩
set_option maxRecDepth 20000 in
set_option maxHeartbeats 1000000 in
theorem CS.write_no (h : CS w0 w X g dg nn most t D L) (A : Option Addr) (len cap : Nat) (bs : List UInt8) (hs : s < nn) (ht : t < 900000) (hl : bs.length = len) (h256 : len ≤ 256) (hby : Bytes w A bs) (hAX : ∀ p : Addr, A = some p → X p.block) (hno : ∀ x ∈ L, x.s ≠ s) :
    Calls Tryz.prog 96 #[.pointer (some ⟨g, 0, none⟩), .int .i64 (s : Int), .slice A len cap] w fun e w' =>
      (e = .returned (.int .i64 3) ∧ Stuck most L s ∧ CS w0 w' X g dg nn most t D L ∧ Keep X w w') ∨
      ∃ D' L' y, e = .returned (.int .i64 0) ∧ Wrote most D L s (filled bs 256) D' L' y ∧ CS w0 w' X g dg nn most (t + 1) D' L' ∧ Keep X w w' := by
  have H1 := h.refS_ (s : Int)
  rw [refS_in h.st.hale hs] at H1
  replace H1 := Lib.hid H1
  have hst := h.st
  have hpos := h.pos
  have hnn : s < 4096 := by have := hst.top; omega
  have hwf := WalkArith.wf_i64 (n := (s : Int)) (by omega)
  obtain ⟨⟨mb, n, time, B, E, h1, h2, h5⟩, _, _⟩ := h
  have hlk := h1.cm.look_no hwf (atS_none hno)
  obtain ⟨c0, c1, c2, c3, _⟩ := h1.cm.head.told
  have HRM := Lib.hid (room_any h1 hst (by omega))
  have hd : decide ((len : Int) > 256) = false := by simp; omega
  have HLB := Lib.hid (filled_length bs 256 (by omega))
  have HT := Lib.hid ht
  have HN := Lib.hid (And.intro h2 (And.intro h5 (And.intro hst (And.intro hpos (And.intro hs (And.intro hno (And.intro hl (And.intro h256 (And.intro hby (And.intro hAX (h1.run.lt)))))))))))
  clear h1 h2 h5 hst hpos hby hAX hl hs hno ht
  go_enter Tryz.func96, Tryz.ntmps96
  go_wp2_with fail
  refine H1.out.mono ?_
  rintro e w' ⟨rfl, rfl⟩
  go_wp2_with fail
  refine HRM.out.mono ?_
  rintro e w1 (⟨rfl, k1, k2, k3⟩ | ⟨D1, L1, rfl, hr, h2, hk⟩)
  · have HK := Lib.hid (show Stuck most L s ∧ CS w0 w1 X g dg nn most t D L ∧ Keep X w w1 from ⟨⟨k1, HN.out.2.2.2.2.2.1⟩, ⟨⟨mb, n, time, B, E, k2, HN.out.1, HN.out.2.1⟩, HN.out.2.2.1, HN.out.2.2.2.1⟩, k3⟩)
    clear k1 k2 k3 H1 HRM
    go_wp2_with fail
    go_ret
    exact .inl ⟨rfl, HK.out⟩
  · obtain ⟨hn5, ht5, hst, hpos, hs, hno, hl, h256, hby, hAX, hXl⟩ := HN.out
    obtain ⟨st1, hl1, hsub, _⟩ := hr.sta hst hpos
    have hno1 : ∀ x ∈ L1, x.s ≠ s := fun x hx => hno x (hsub x hx)
    have hXl1 := h2.run.lt
    have hby1 : Bytes w1 A bs := hby.same hk.size (fun p e hp => hk.at_ _ (hAX p e))
    have hb2 : Below w1.heap.size w1 (w1.alloc (.cells #[.slice none 0 0, .bool false, .int .i64 0, .int .u64 0] 197)) := (Below.refl _ _).alloc (Nat.le_refl _) _
    have hc2 := h2.cm.below hb2
    have hF2 : Frm (w1.alloc (.cells #[.slice none 0 0, .bool false, .int .i64 0, .int .u64 0] 197)) w1.heap.size (.slice none 0 0) false 0 0 := Blk.new w1 _ _
    obtain ⟨w3, hput, hm3, ho3⟩ := hc2.map.put (s : Int) w1.heap.size hwf (by have := HT.out; omega)
    have hgl := Blk.lt h2.cm.head
    have hml := h2.cm.map.lt
    have hs3 := ho3.size
    rw [World.size_alloc] at hs3
    have hF3 := Blk.same hF2 (ho3.block w1.heap.size (by rw [World.size_alloc]; omega) (fun e => by have e' : w1.heap.size = mb := e; omega))
    have hH3 := Blk.same hc2.head (ho3.block g (by rw [World.size_alloc]; omega) h2.cm.ne)
    have ho13 : Off (fun k => k = mb ∨ k = g) w1 w3 := (Off.of_new hb2 _).trans (ho3.mono fun k _ e => .inl e)
    have hAl : ∀ p : Addr, A = some p → p.block < w1.heap.size ∧ p.block ≠ mb ∧ p.block ≠ g := fun p e => by
      have hX := hAX p e
      exact ⟨hXl1 _ (.inl hX), fun e' => (h2.far mb (.inr (.inl rfl))).2 (e' ▸ hX), fun e' => (h2.far g (.inl rfl)).2 (e' ▸ hX)⟩
    have hby3 : Bytes w3 A bs := hby1.same (by omega) (fun p e hp => ho13.block _ hp (fun e' => by rcases e' with e' | e'; exact (hAl p e).2.1 e'; exact (hAl p e).2.2 e'))
    obtain ⟨w4, w5, w6, w7, hmk, ⟨a0, af⟩, hw5, ⟨b1, bf⟩, hw6, d0, hcp, hH7, hF7, hN7, ho7⟩ := fillup w3 w1.heap.size g dg mb most time 0 0 len cap (.slice none 0 0) false A bs hF3 hH3 (by omega) hl h256 hby3 (fun p e => by have := (hAl p e).1; omega)
    have hu := cuse_any g dg mb most time w1.heap.size 0 0 _ true w7 hH7 hF7 (by omega) (by have := HT.out; omega)
    have HU := Lib.hid hu
    have HF := Lib.hid (And.intro hr (And.intro h2 (And.intro hk (And.intro hno1 (And.intro hm3 (And.intro ho13 (And.intro hN7 (And.intro ho7 hs3))))))))
    obtain ⟨e0, e1, e2, e3, _⟩ := hc2.head.told
    clear hr h2 hk hno1 st1 hl1 hsub hn5 ht5 hst hpos hs hno hl hby hAX hXl hXl1 hby1 hb2 hc2 hF2 hm3 ho3 hgl hml hF3 hH3 ho13 hAl hby3 hH7 hF7 hN7 ho7 hu H1 HRM hs3 c0 c1 c2 c3 hlk
    go_wp2_with (first
      | (go_at_call 156; refine HU.out.mono ?_)
      | fail)
    rintro e w8 ⟨rfl, k1, k2, k3, k4⟩
    have HR := Lib.hid (show ∃ D' L' y, Wrote most D L s (filled bs 256) D' L' y ∧ CS w0 w8 X g dg nn most (t + 1) D' L' ∧ Keep X w w8 by
      obtain ⟨hn5, ht5, hst, hpos, hs, hno, hl, h256, hby, hAX, hXl⟩ := HN.out
      obtain ⟨hr, h2, hk, hno1, hm3, ho13, hN7, ho7, hs3⟩ := HF.out
      have hgl := Blk.lt h2.cm.head
      have hml := h2.cm.map.lt
      have hsz := hN7.lt
      have hfs : w1.heap.size < w8.heap.size := Blk.lt k2
      have hN8 : Blk w8 w3.heap.size 5 (row8 (filled bs 256)) := Blk.same hN7 (k3.block _ hsz (fun e => by rcases e with e | e <;> omega))
      have ho : Off (fun k => k = mb ∨ k = g) w1 w8 := ho13.then ((ho7.mono (G := fun k => k = w1.heap.size ∨ k = g ∨ k = w1.heap.size) fun k _ e => .inl e).trans (k3.mono fun k _ e => .inr e)) (fun j hj e => by rcases e with e | e | e <;> first | omega | exact .inr e)
      have hm8 := hm3.same (w' := w8) ((k3.block mb (by have := ho7.size; omega) (fun e => by rcases e with e | e; exact h2.cm.ne e.symm; omega)).trans (ho7.block mb (by omega) (by omega)))
      obtain ⟨E', q1, q2⟩ := h2.added ⟨s, filled bs 256, true, 0, time + 1⟩ w1.heap.size (.slice (some ⟨w3.heap.size, 0, none⟩) 256 256) hno1 k1 k2 (Sec.of_blk hN8 ⟨by omega, hN8.lt, by omega⟩ (by rw [HLB.out]; unfold maxLen; omega) 256 HLB.out) (Nat.le_refl _) ⟨HLB.out, by show s < _; omega, by show (0 : Nat) < _; omega⟩ hm8 ho
      have hW : Wrote most D L s (filled bs 256) D1 (L1 ++ [⟨s, filled bs 256, true, 0, time + 1⟩]) ⟨s, filled bs 256, true, 0, time + 1⟩ := .inr ⟨hno, L1, hr, rfl, rfl⟩
      exact ⟨D1, _, _, hW, ⟨⟨mb, n + 1, time + 1, _, E', q1, by omega, by omega⟩, (hW.sta hst hs hpos HLB.out).1, hpos⟩, hk.trans q2⟩)
    clear k1 k2 k3 k4 HU
    go_wp2_with fail
    go_ret
    obtain ⟨D', L', y, q⟩ := HR.out
    exact .inr ⟨D', L', y, rfl, q⟩
theorem CS.write (h : CS w0 w X g dg nn most t D L) (A : Option Addr) (len cap : Nat) (bs : List UInt8) (hs : s < nn) (ht : t < 900000) (hl : bs.length = len) (h256 : len ≤ 256) (hby : Bytes w A bs) (hAX : ∀ p : Addr, A = some p → X p.block) :
    Calls Tryz.prog 96 #[.pointer (some ⟨g, 0, none⟩), .int .i64 (s : Int), .slice A len cap] w fun e w' =>
      (e = .returned (.int .i64 3) ∧ Stuck most L s ∧ CS w0 w' X g dg nn most t D L ∧ Keep X w w') ∨
      ∃ D' L' y, e = .returned (.int .i64 0) ∧ Wrote most D L s (filled bs 256) D' L' y ∧ CS w0 w' X g dg nn most (t + 1) D' L' ∧ Keep X w w' := by
  by_cases hx : ∃ x ∈ L, x.s = s
  · obtain ⟨x, hx, rfl⟩ := hx
    exact (h.write_yes A len cap bs ht hl h256 hby hAX hx).mono fun e w' h => .inr h
  · exact h.write_no A len cap bs hs ht hl h256 hby hAX (fun x h e => hx ⟨x, h, e⟩)
end
end Go.Proofs.YtolpgpphjnkehaaGreatDoor.Cac
/- cache: Unpin, Drop, Held, New, of a cache over a disk whose power stays. -/
namespace Go.Proofs.YtolpgpphjnkehaaGreatDoor.Cac
set_option maxRecDepth 20000
open Go.RowKit Dsk
theorem Sta.del {n most t s : Nat} {D : DS} {L : List Fr} (h : Sta n most t D L) : Sta n most t D (delL s L) :=
  ⟨h.hale, fun y hy hd => h.clean y (delL_mem.1 hy).1 hd, fun y hy => h.inn y (delL_mem.1 hy).1, h.nodup.filter _, Nat.le_trans (List.length_filter_le _ _) h.len, h.top⟩
section
variable {w0 w : World} {X : Nat → Prop} {g dg nn most t s : Nat} {L : List Fr} {D : DS}
theorem atS_has {B : Nat → Nat} {L : List Fr} {i : Int} (h : ¬ ∃ x ∈ L, (x.s : Int) = i) : atS B L i = none := by
  unfold atS
  rw [List.find?_eq_none.2 (fun x hx => by have : (x.s : Int) ≠ i := fun e => h ⟨x, hx, e⟩; simpa using this)]; rfl
theorem CS.drop_none (h : CS w0 w X g dg nn most t D L) {i : Int} (hi : (Lit.int .i64 i).wf = true) (hx : ∀ x ∈ L, (x.s : Int) ≠ i) :
    Calls Tryz.prog 106 #[.pointer (some ⟨g, 0, none⟩), .int .i64 i] w fun e w' => e = .returned (.int .i64 7) ∧ w = w' := by
  obtain ⟨⟨mb, n, time, B, E, h1, h2, h5⟩, h3, h4⟩ := h
  obtain ⟨F, hD⟩ := h1.disk
  exact drop_no h1.cm hD h3.hale.dead hi (atS_has (fun ⟨x, hx', e⟩ => hx x hx' e))
theorem CS.drop_pin (h : CS w0 w X g dg nn most t D L) {x : Fr} (hx : x ∈ L) (hp : 0 < x.pins) :
    Calls Tryz.prog 106 #[.pointer (some ⟨g, 0, none⟩), .int .i64 (x.s : Int)] w fun e w' => e = .returned (.int .i64 3) ∧ w = w' := by
  obtain ⟨⟨mb, n, time, B, E, h1, h2, h5⟩, h3, h4⟩ := h
  obtain ⟨F, hD⟩ := h1.disk
  exact drop_pinned h1.cm hD h3.hale.dead hx hp
theorem CS.drop (h : CS w0 w X g dg nn most t D L) {x : Fr} (hx : x ∈ L) (hp : x.pins = 0) :
    Calls Tryz.prog 106 #[.pointer (some ⟨g, 0, none⟩), .int .i64 (x.s : Int)] w fun e w' => e = .returned (.int .i64 0) ∧ CS w0 w' X g dg nn most t D (delL x.s L) ∧ Keep X w w' := by
  obtain ⟨⟨mb, n, time, B, E, h1, h2, h5⟩, h3, h4⟩ := h
  obtain ⟨F, hD⟩ := h1.disk
  refine (drop_yes h1.cm hD h3.hale.dead hx hp).mono ?_
  rintro e w' ⟨rfl, k1, k2⟩
  obtain ⟨q1, q2⟩ := h1.gone k1 k2
  exact ⟨rfl, ⟨⟨mb, n, time, B, _, q1, h2, h5⟩, h3.del, h4⟩, q2⟩
theorem CS.new (nn most : Nat) (hn : 16 ≤ nn ∧ nn ≤ 4096) (hm : 1 ≤ most ∧ most ≤ 1024) (h : Run w0 w X dg (newD nn)) :
    Calls Tryz.prog 59 #[.pointer (some ⟨dg, 0, none⟩), .int .i64 (most : Int)] w fun e w' => ∃ g, e = .returned (.tuple #[.pointer (some ⟨g, 0, none⟩), .int .i64 0]) ∧ w.heap.size ≤ g ∧ CS w0 w' X g dg nn most 0 (newD nn) [] ∧ Below w.heap.size w w' := by
  have hr := h
  obtain ⟨⟨F, hD, hF⟩, hX, hb0⟩ := h
  refine (cnew_ok dg F (newD nn) most w hD rfl hm).mono ?_
  rintro e w' ⟨rfl, h1, h2, hb⟩
  have hsz := Blk.lt h1
  refine ⟨_, rfl, by omega, ⟨⟨w.heap.size, 0, 0, fun _ => 0, fun _ => False, ⟨⟨h1, h2, (fun x hx => by cases hx), (fun x hx => by cases hx), List.Pairwise.nil, (fun x hx => by cases hx), (fun x hx => by cases hx), id, id, by omega⟩, hr.add hb _ (fun k hk => ?_), fun k hk => ?_⟩, Nat.le_refl _, Nat.le_refl _⟩, Sta.new nn most ⟨hm.2, hn⟩, by omega⟩, hb⟩
  · rcases hk with hk | hk | hk | hk | ⟨x, hx, _⟩
    · exact .inl hk
    · exact .inr (by omega)
    · exact .inr (by omega)
    · exact hk.elim
    · cases hx
  · have hs0 := hb0.size
    rcases hk with hk | hk | hk | ⟨x, hx, _⟩
    · exact ⟨by omega, fun hx => by have := hX k hx; omega⟩
    · exact ⟨by omega, fun hx => by have := hX k hx; omega⟩
    · exact hk.elim
    · cases hx
end
end Go.Proofs.YtolpgpphjnkehaaGreatDoor.Cac
/- cache: Evict. -/
namespace Go.Proofs.YtolpgpphjnkehaaGreatDoor.Cac
set_option maxRecDepth 20000
open Go.RowKit Dsk
section
variable {w0 w : World} {X : Nat → Prop} {g dg nn most t s : Nat} {L : List Fr} {D : DS}
set_option maxRecDepth 20000 in
theorem CS.evict_none (h : CS w0 w X g dg nn most t D L) (i : Int) (hi : i < 0 ∨ L = []) :
    Calls Tryz.prog 124 #[.pointer (some ⟨g, 0, none⟩), .int .i64 i] w fun e w' => e = .returned (.tuple #[.bool false, .int .i64 0]) ∧ w = w' := by
  have H1 := Lib.hid h.ref_
  obtain ⟨⟨mb, n, time, B, E, h1, h2, h5⟩, h3, h4⟩ := h
  obtain ⟨c0, c1, c2, c3, _⟩ := h1.cm.head.told
  have hlen := fun ty => h1.cm.map.len ty
  obtain ⟨l, hll⟩ : ∃ l, L.length = l := ⟨_, rfl⟩
  rw [hll] at hlen
  clear h1 h2 h5 h3 h4
  by_cases h0 : i < 0
  · have hd : decide (i < 0) = true := by simpa using h0
    clear hi hll h0
    go_enter Tryz.func124, Tryz.ntmps124
    go_wp2_with fail
    refine H1.out.mono ?_
    rintro e w' ⟨rfl, rfl⟩
    go_wp2_with fail
    go_ret2
    exact ⟨rfl, rfl⟩
  · have hd : decide (i < 0) = false := by simpa using h0
    have hl0 : L = [] := hi.resolve_left h0
    have hle : l = 0 := by rw [← hll, hl0]; rfl
    subst hle
    clear hi hll h0 hl0
    go_enter Tryz.func124, Tryz.ntmps124
    go_wp2_with fail
    refine H1.out.mono ?_
    rintro e w' ⟨rfl, rfl⟩
    go_wp2_with fail
    go_ret2
    exact ⟨rfl, rfl⟩
set_option maxRecDepth 20000 in
set_option maxHeartbeats 2000000 in
theorem CS.evict (h : CS w0 w X g dg nn most t D L) (i : Int) (hi : 0 ≤ i ∧ i < 9223372036854775808) (hL : L ≠ []) (ht : t < 900000) :
    Calls Tryz.prog 124 #[.pointer (some ⟨g, 0, none⟩), .int .i64 i] w fun e w' => ∃ x ∈ L,
      (0 < x.pins ∧ e = .returned (.tuple #[.bool false, .int .i64 0]) ∧ CS w0 w' X g dg nn most t D L ∧ Keep X w w') ∨
      (x.pins = 0 ∧ e = .returned (.tuple #[.bool true, .int .i64 0]) ∧ CS w0 w' X g dg nn most (t + 1) (outD D x) (delL x.s L) ∧ Keep X w w') := by
  have H1 := Lib.hid h.ref_
  have hst := h.st
  have hpos := h.pos
  obtain ⟨⟨mb, n, time, B, E, h1, h2, h5⟩, _, _⟩ := h
  obtain ⟨c0, c1, c2, c3, _⟩ := h1.cm.head.told
  have hlen : ∀ q ty, (Builtin.len_ #[159] ty #[.map (some mb)]).run Tryz.prog (w.drewN q) = .ok (.int .i64 (L.length : Int)) (w.drewN q) := fun q ty => (h1.cm.below (drewN_below w q)).map.len ty
  have hlen0 := fun ty => h1.cm.map.len ty
  have hl1024 : L.length ≤ 1024 := by have := hst.len; have := hst.top; omega
  have HRS : Hid (∀ q, Calls Tryz.prog 159 #[.pointer (some ⟨g, 0, none⟩)] (w.drewN q) fun e w' => ∃ q c V, e = .returned (.slice (some ⟨q, 0, none⟩) L.length c) ∧ (w.heap.size ≤ q ∧ q < w'.heap.size) ∧ Ints w' (some ⟨q, 0, none⟩) (nums V) ∧ V.length = L.length ∧ (∀ x ∈ L, x.s ∈ V) ∧ (∀ v ∈ V, ∃ x ∈ L, x.s = v) ∧ Below w.heap.size w w') := Lib.hid (fun q => by
    refine (rising_any g dg mb n most time E B L (w.drewN q) (h1.cm.below (drewN_below w q)) hl1024).mono ?_
    rintro e w' ⟨q', c, V, rfl, k1, k2, k3, k4, k5, k6⟩
    exact ⟨q', c, V, rfl, k1, k2, k3, k4, k5, (drewN_below w q).trans k6⟩)
  have hlpos : 0 < L.length := List.length_pos_iff.2 hL
  obtain ⟨l, hll⟩ : ∃ l, L.length = l := ⟨_, rfl⟩
  rw [hll] at hlen hlen0 hl1024 hlpos HRS
  have hd : decide (i < 0) = false := by simpa using hi.1
  have hl0 : ((l : Int) == 0) = false := by simp; omega
  obtain ⟨iN, rfl⟩ : ∃ iN : Nat, i = iN := ⟨i.toNat, by omega⟩
  have hmod : ((iN : Int).tmod (l : Int)) = ((iN % l : Nat) : Int) := (Int.ofNat_tmod iN l).symm
  have hwm : IntKind.i64.wrap ((iN : Int).tmod (l : Int)) = ((iN % l : Nat) : Int) := by rw [hmod]; exact IntWalk.i64_in _ (by have := Nat.mod_lt iN hlpos; omega)
  have hml : iN % l < l := Nat.mod_lt iN hlpos
  have HF := Lib.hid (And.intro h1 (And.intro hst (And.intro hpos (And.intro h2 (And.intro h5 (And.intro hll ht))))))
  clear h1 hst hpos h2 h5 hll ht hL hi
  go_enter Tryz.func124, Tryz.ntmps124
  go_wp2_with fail
  refine H1.out.mono ?_
  rintro e w' ⟨rfl, rfl⟩
  go_wp2_with fail
  obtain ⟨kk, hkk⟩ : ∃ kk, iN % l = kk := ⟨_, rfl⟩
  rw [hkk] at hmod hwm hml
  have hk1 : ¬ ((kk : Int) < 0) := by omega
  have hk2 : (kk : Int) < (l : Int) := by omega
  have hlz : (l : Int) ≠ 0 := by omega
  clear hkk
  go_region_with (go_at_call 159; refine (HRS.out _).mono ?_; rintro e w2 ⟨q, c, V, rfl, k1, k2, k3, k4, k5, k6⟩
                  obtain ⟨v, hv⟩ : ∃ v, V[kk]? = some v := ⟨_, List.getElem?_eq_getElem (by rw [k3]; exact hml)⟩
                  obtain ⟨x, hx, hxs⟩ := k5 v (List.mem_of_getElem? hv)
                  subst hxs
                  obtain ⟨q', off, e0, hqlt, hcq, _⟩ := k2 kk (x.s : Int) (nums_get hv)
                  have e0 := Option.some.inj e0
                  injection e0 with e1 e2
                  subst e1
                  subst e2
                  rw [Nat.zero_add] at hcq
                  have d2 := (k6.cell (p := ⟨g, 2, none⟩) (Blk.lt HF.out.1.cm.head)).trans c2
                  have hlen2 := (HF.out.1.cm.below k6).map.len 3
                  rw [HF.out.2.2.2.2.2.1] at hlen2
                  have HX := Lib.hid (And.intro hx k6)
                  clear k1 k2 k3 k4 k5 k6 hv hx)
  all_goals
    obtain ⟨hx, k6⟩ := HX.out
    have hk6 := HF.out.1.below k6
    have hl2 := hk6.1.cm.look_yes hx
    obtain ⟨b0, b1, b2, b3, _⟩ := hk6.1.cm.head.told
    obtain ⟨v, hf, _⟩ := hk6.1.cm.frm x hx
    obtain ⟨f0, f1, f2, f3, _⟩ := hf.told
    have HPO := putOut_any hk6.1 hx (by have := HF.out.2.1.hale.P; have := HF.out.2.2.2.2.2.2; omega) (by have := HF.out.2.1.hale.steps; have := HF.out.2.2.2.2.2.2; omega)
    rw [HF.out.2.1.outE hx, HF.out.2.1.outL hx] at HPO
    replace HPO := Lib.hid HPO
    have HK6 := Lib.hid hk6
    obtain ⟨bf, hbf⟩ : ∃ bf, B x.s = bf := ⟨_, rfl⟩
    obtain ⟨pp, hpp⟩ : ∃ pp, x.pins = pp := ⟨_, rfl⟩
    have HPP := Lib.hid hpp
    rw [hbf] at hl2 f0 f1 f2 f3
    rw [hpp] at f2
    clear hx k6 hk6 hf hbf hpp hcq d2 hlen2 H1 HRS
    by_cases hp : 0 < pp
    · have hpd : decide ((pp : Int) > 0) = true := by simp; omega
      go_wp2_with fail
      go_ret2
      exact ⟨x, HX.out.1, .inl ⟨by rw [HPP.out]; exact hp, rfl, ⟨⟨mb, n, time, B, E, HK6.out.1, HF.out.2.2.2.1, HF.out.2.2.2.2.1⟩, HF.out.2.1, HF.out.2.2.1⟩, HK6.out.2⟩⟩
    · have hpd : decide ((pp : Int) > 0) = false := by simp; omega
      go_wp2_with fail
      refine HPO.out.mono ?_
      rintro e w3 ⟨rfl, r1, r2⟩
      have HRR := Lib.hid (And.intro r1 r2)
      clear r1 r2
      go_wp2_with fail
      go_ret2
      exact ⟨x, HX.out.1, .inr ⟨by rw [HPP.out]; omega, rfl, ⟨⟨mb, n, time, B, E, HRR.out.1, Nat.le_succ_of_le HF.out.2.2.2.1, Nat.le_succ_of_le HF.out.2.2.2.2.1⟩, HF.out.2.1.out HX.out.1, HF.out.2.2.1⟩, HK6.out.2.trans HRR.out.2⟩⟩
end
end Go.Proofs.YtolpgpphjnkehaaGreatDoor.Cac
/- cache: Flush. -/
namespace Go.Proofs.YtolpgpphjnkehaaGreatDoor.Cac
set_option maxRecDepth 20000
open Go.RowKit Dsk
def key (x : Fr) : Nat × Nat := (x.s, x.pins)
theorem key_upd {y : Fr} {L : List Fr} (h : ∀ x ∈ L, x.s = y.s → x.pins = y.pins) : (updL y L).map key = L.map key := by
  unfold updL
  rw [List.map_map]
  refine List.map_congr_left (fun x hx => ?_)
  show key (if x.s = y.s then y else x) = key x
  split
  · rename_i e
    unfold key
    rw [e, h x hx e]
  · rfl
theorem key_s {L L' : List Fr} (h : L'.map key = L.map key) : L'.map Fr.s = L.map Fr.s := by
  have := congrArg (List.map Prod.fst) h
  rw [List.map_map, List.map_map] at this
  exact this
theorem key_len {L L' : List Fr} (h : L'.map key = L.map key) : L'.length = L.length := by
  have := congrArg List.length h
  simpa using this
theorem Sta.cleaned {n most t : Nat} {D : DS} {L : List Fr} (h : Sta n most t D L) {x : Fr} (hx : x ∈ L) :
    Sta n most (t + 1) (outD D x) (updL { x with dirty := false } L) ∧ ∀ j, what (outD D x) (updL { x with dirty := false } L) j = what D L j := by
  have hex : ∃ z ∈ L, z.s = ({ x with dirty := false } : Fr).s := ⟨x, hx, rfl⟩
  have hu := (h.mono (Nat.le_succ t)).upd (y := { x with dirty := true }) ⟨x, hx, rfl⟩ (fun hd => by cases hd) (by show x.pins ≤ t + 1; have := (h.inn x hx).2.1; omega) (h.inn x hx).2.2
  have hin : ∀ z ∈ updL ({ x with dirty := false } : Fr) L, (z = { x with dirty := false }) ∨ (z ∈ L ∧ z.s ≠ x.s) := fun z hz => by
    rcases updL_mem hz with ⟨e, _⟩ | e
    · exact .inl e
    · exact .inr e
  have hp : (updL ({ x with dirty := false } : Fr) L).Pairwise fun a b => a.s ≠ b.s := by
    unfold updL
    rw [List.pairwise_map]
    exact h.nodup.imp fun {a b} hab => by rw [updL_s, updL_s]; exact hab
  refine ⟨⟨h.outH hx, fun z hz hd => ?_, fun z hz => ?_, hp, by rw [updL_len]; exact h.len, h.top⟩, fun j => ?_⟩
  · rcases hin z hz with rfl | ⟨hz, hne⟩
    · show x.b = readS (outD D x) x.s
      rw [h.outR hx, if_pos rfl]
    · rw [h.outR hx, if_neg (fun e => hne e.symm)]; exact h.clean z hz hd
  · rcases hin z hz with rfl | ⟨hz, hne⟩
    · exact ⟨(h.inn x hx).1, Nat.le_succ_of_le (h.inn x hx).2.1, (h.inn x hx).2.2⟩
    · exact ⟨(h.inn z hz).1, Nat.le_succ_of_le (h.inn z hz).2.1, (h.inn z hz).2.2⟩
  · rw [what_upd h.nodup hex]
    split
    · rename_i e; rw [e]; exact (what_yes h.nodup hx).symm
    · rename_i hne
      by_cases hj : ∃ z ∈ L, z.s = j
      · obtain ⟨z, hz, rfl⟩ := hj
        rw [what_yes h.nodup hz, what_yes h.nodup hz]
      · have hn : ∀ z ∈ L, z.s ≠ j := fun z hz e => hj ⟨z, hz, e⟩
        rw [what_no hn, what_no hn, h.outR hx, if_neg (fun e => hne e.symm)]
/-- Between the rounds of Flush. -/
structure FlI (w0 w1 wr : World) (Y : Nat → Prop) (g dg mb n nn most time t j : Nat) (B : Nat → Nat) (D : DS) (L : List Fr) (V : List Nat) (D' : DS) (L' : List Fr) : Prop where
  run : ∃ E', RunC w0 wr Y g dg mb n most time B L' D' E'
  st : Sta nn most (t + j) D' L'
  what_ : ∀ i, what D' L' i = what D L i
  keys : L'.map key = L.map key
  clean : ∀ x ∈ L', x.s ∈ V.take j → x.dirty = false
  keep : Keep Y w1 wr
section
variable {w0 w w1 wr : World} {X Y : Nat → Prop} {g dg mb n nn most time t j s : Nat} {B : Nat → Nat} {L L' : List Fr} {V : List Nat} {D D' : DS}
theorem FlI.skip (h : FlI w0 w1 wr Y g dg mb n nn most time t j B D L V D' L') {x : Fr} (hx : x ∈ L') (hv : V[j]? = some x.s) (hd : x.dirty = false) : FlI w0 w1 wr Y g dg mb n nn most time t (j + 1) B D L V D' L' :=
  ⟨h.run, h.st.mono (by omega), h.what_, h.keys, fun y hy hm => by
    obtain ⟨hj, e⟩ := List.getElem?_eq_some_iff.1 hv
    rw [List.take_succ_eq_append_getElem hj, e] at hm
    rcases List.mem_append.1 hm with hm | hm
    · exact h.clean y hy hm
    · rw [uniq h.st.nodup hy hx (List.mem_singleton.1 hm)]; exact hd, h.keep⟩
theorem FlI.next {w2 : World} {E' : Nat → Prop} (h : FlI w0 w1 wr Y g dg mb n nn most time t j B D L V D' L') {x : Fr} (hx : x ∈ L') (hv : V[j]? = some x.s) (hd : x.dirty = true) (hr : RunC w0 w2 Y g dg mb n most time B L' (writeD D' (x.s : Int) x.b) E') (hk : Keep Y wr w2) :
    FlI w0 w1 (w2.setCell ⟨B x.s, 1, none⟩ (.bool false)) Y g dg mb n nn most time t (j + 1) B D L V (outD D' x) (updL { x with dirty := false } L') := by
  have e0 : outD D' x = writeD D' (x.s : Int) x.b := by unfold outD; rw [hd]; rfl
  obtain ⟨v, hf, hs⟩ := hr.cm.frm x hx
  have hap := hr.cm.apart x hx
  have ho : Off (fun k => k = B x.s ∨ k = g) w2 (w2.setCell ⟨B x.s, 1, none⟩ (.bool false)) := (Off.setc _ _ _ _).mono fun k _ e => .inl e
  have hf1 : Frm (w2.setCell ⟨B x.s, 1, none⟩ (.bool false)) (B x.s) v false x.pins x.used := Blk.set_ hf 1 _
  have hc := hr.cm.upd (y := { x with dirty := false }) v ⟨x, hx, rfl⟩ ho (Blk.far hr.cm.head (p := ⟨B x.s, 1, none⟩) (fun e => hap.1 e.symm) _) hf1
    ((hs.same ho.size (fun k hk hl => ho.block k hl (fun e => by
      rcases e with e | e
      · exact hap.2.2 (e ▸ hk)
      · exact hr.cm.e1 (e ▸ hk)))).mono fun k hk => grow.old hk) ⟨(hr.cm.secs x hx).1, (hr.cm.secs x hx).2.2⟩
  obtain ⟨q1, q2⟩ := hr.turned (y := { x with dirty := false }) ⟨x, hx, rfl⟩ hc ho
  obtain ⟨s1, s2⟩ := h.st.cleaned hx
  refine ⟨⟨_, by rw [e0]; exact q1⟩, s1, fun i => (s2 i).trans (h.what_ i), (key_upd (fun z hz e => by rw [uniq h.st.nodup hz hx e])).trans h.keys, fun y hy hm => ?_, (h.keep.trans hk).trans q2⟩
  rcases updL_mem hy with ⟨rfl, _⟩ | ⟨hy, hne⟩
  · rfl
  · obtain ⟨hj, e⟩ := List.getElem?_eq_some_iff.1 hv
    rw [List.take_succ_eq_append_getElem hj, e] at hm
    rcases List.mem_append.1 hm with hm | hm
    · exact h.clean y hy hm
    · exact absurd (List.mem_singleton.1 hm) hne
set_option maxRecDepth 20000 in
set_option maxHeartbeats 2000000 in
theorem CS.flush (h : CS w0 w X g dg nn most t D L) (ht : t < 900000) :
    Calls Tryz.prog 101 #[.pointer (some ⟨g, 0, none⟩)] w fun e w' => ∃ D' L', e = .returned (.int .i64 0) ∧ L'.map key = L.map key ∧ (∀ x ∈ L', x.dirty = false) ∧ (∀ j, what D' L' j = what D L j) ∧ (∀ j, D'.S.getD j [] = what D L j) ∧ CS w0 w' X g dg nn most (t + 1025) D' L' ∧ Keep X w w' := by
  have H1 := Lib.hid h.ref_
  have hst := h.st
  have hpos := h.pos
  obtain ⟨⟨mb, n, time, B, E, h1, h2, h5⟩, _, _⟩ := h
  have hl1024 : L.length ≤ 1024 := by have := hst.len; have := hst.top; omega
  have HRS := Lib.hid (rising_any g dg mb n most time E B L w h1.cm hl1024)
  obtain ⟨l, hll⟩ : ∃ l, L.length = l := ⟨_, rfl⟩
  rw [hll] at hl1024 HRS
  have HF := Lib.hid (And.intro h1 (And.intro hst (And.intro hpos (And.intro h2 (And.intro h5 (And.intro hll ht))))))
  clear h1 hst hpos h2 h5 hll ht
  go_enter Tryz.func101, Tryz.ntmps101
  go_wp2_with fail
  refine H1.out.mono ?_
  rintro e w' ⟨rfl, rfl⟩
  go_wp2_with fail
  refine HRS.out.mono ?_
  rintro e w1 ⟨q, c, V, rfl, k1, k2, k3, k4, k5, k6⟩
  have HV := Lib.hid (And.intro k2 (And.intro k3 (And.intro k4 k5)))
  have HI0 : Hid (∃ D' L', FlI w0 w1 w1 (fun k => X k ∨ k = q) g dg mb n nn most time t 0 B D L V D' L') := Lib.hid ⟨D, L, ⟨⟨E, HF.out.1.more k6 _ (fun k hk => hk.imp id fun e => by
    have := k1.1; have := k1.2; omega)⟩, HF.out.2.1, fun _ => rfl, rfl, (fun x _ hm => by cases hm), ⟨Nat.le_refl _, fun _ _ => rfl⟩⟩⟩
  have HK0 := Lib.hid (HF.out.1.below k6).2
  clear k1 k2 k3 k4 k5 k6 H1 HRS
  go_wp2_with fail
  go_loopw [5, 6, 7, 16] (fun _ _ _ iv wr => ∃ j : Nat, j ≤ l ∧ iv = .int .i64 (j : Int) ∧ Hid (∃ D' L', FlI w0 w1 wr (fun k => X k ∨ k = q) g dg mb n nn most time t j B D L V D' L')) (fun _ _ _ iv _ => l - (intOf iv).toNat)
  case atStart => exact ⟨0, Nat.zero_le _, rfl, HI0⟩
  case round =>
    clear HI0
    obtain ⟨j, hj, rfl, hI⟩ := hrel
    obtain ⟨D', L', hI⟩ := hI.out
    have HI := Lib.hid hI
    obtain ⟨E', hrun⟩ := hI.run
    obtain ⟨c0, c1, c2, c3, _⟩ := hrun.cm.head.told
    by_cases hlt : j < l
    · have hd : decide ((j : Int) < (l : Int)) = true := by simpa using hlt
      obtain ⟨v, hv⟩ : ∃ v, V[j]? = some v := ⟨_, List.getElem?_eq_getElem (by rw [HV.out.2.1]; exact hlt)⟩
      obtain ⟨x, hx, hxs⟩ : ∃ x ∈ L', x.s = v := by
        obtain ⟨x, hx, e⟩ := HV.out.2.2.2 v (List.mem_of_getElem? hv)
        have hm : v ∈ L'.map Fr.s := by rw [key_s hI.keys, ← e]; exact List.mem_map.2 ⟨x, hx, rfl⟩
        exact List.mem_map.1 hm
      subst hxs
      obtain ⟨q', off, e0, hqlt, hcq, _⟩ := HV.out.1 j (x.s : Int) (nums_get hv)
      have e0 := Option.some.inj e0
      injection e0 with e1 e2
      subst e1
      subst e2
      rw [Nat.zero_add] at hcq
      have hcq := (World.cell?_of_block (a := ⟨q, j, none⟩) (hI.keep.at_ q (.inr rfl))).trans hcq
      have hlk := hrun.cm.look_yes hx
      obtain ⟨v, hf, hsec⟩ := hrun.cm.frm x hx
      have hin := hI.st.inn x hx
      cases hdx : x.dirty with
      | false =>
        have HI2 := Lib.hid (HI.out.skip hx hv hdx)
        obtain ⟨f0, f1, f2, f3, _⟩ := hf.told
        rw [hdx] at f1
        obtain ⟨bf, hbf⟩ : ∃ bf, B x.s = bf := ⟨_, rfl⟩
        rw [hbf] at hlk f0 f1 f2 f3
        clear hI hrun hx hf hsec hin hv hdx hqlt hbf
        go_wp2_with fail
        go_roundw
        case rel => exact ⟨j + 1, by omega, by go_num, Lib.hid ⟨D', L', HI2.out⟩⟩
        case measure => simp [intOf]; omega
      | true =>
        obtain ⟨A, cc, rfl, _, _, hby, _⟩ := hsec
        obtain ⟨f0, f1, f2, f3, _⟩ := hf.told
        rw [hdx] at f1
        rw [hin.2.2] at f0
        have hP := hI.st.hale.P
        have hS := hI.st.hale.steps
        have htt := HF.out.2.2.2.2.2.2
        have HW : Hid (∀ q' , Calls Tryz.prog 104 #[.pointer (some ⟨dg, 0, none⟩), .int .i64 (x.s : Int), .slice A 256 cc] (wr.drewN q') fun e w' => e = .returned (.int .i64 0) ∧ RunC w0 w' (fun k => X k ∨ k = q) g dg mb n most time B L' (writeD D' (x.s : Int) x.b) E' ∧ Keep (fun k => X k ∨ k = q) wr w') := Lib.hid (fun q' => by
          have := hrun.writes hx (c := cc) hby (by omega) (by omega) q'
          rw [hI.st.hale.writeE hin.1 hin.2.2] at this
          exact this)
        have HX := Lib.hid (And.intro hx (And.intro hv hdx))
        obtain ⟨bf, hbf⟩ : ∃ bf, B x.s = bf := ⟨_, rfl⟩
        have HBF := Lib.hid hbf
        rw [hbf] at hlk f0 f1 f2 f3
        clear hI hrun hx hf hby hin hv hdx hqlt hbf hP hS htt
        go_wp2_with fail
        go_region_with (go_at_call 104; refine (HW.out _).mono ?_; rintro e w2 ⟨rfl, hrc, hk⟩
                        have HN := Lib.hid (HI.out.next HX.out.1 HX.out.2.1 HX.out.2.2 hrc hk)
                        obtain ⟨v2, hf2, _⟩ := hrc.cm.frm x HX.out.1
                        rw [HBF.out] at hf2 HN
                        obtain ⟨g0, g1, g2, g3, gf⟩ := hf2.told
                        clear hrc hk hf2)
        all_goals
          go_wp2_with fail
          go_roundw
          case rel => exact ⟨j + 1, by omega, by go_num, Lib.hid ⟨_, _, HN.out⟩⟩
          case measure => simp [intOf]; omega
    · obtain rfl : l = j := by omega
      have hd : decide ((l : Int) < (l : Int)) = false := by simp
      have htt := HF.out.2.2.2.2.2.2
      have hP := hI.st.hale.P
      have hS := hI.st.hale.steps
      have hbar := hrun.run.barrier (by omega) (by omega)
      rw [hI.st.hale.barE] at hbar
      have HB := Lib.hid hbar
      have HRUN := Lib.hid hrun
      clear hI hrun htt hP hS hbar
      go_wp2_with fail
      refine HB.out.mono ?_
      rintro e w2 ⟨rfl, r1, r2⟩
      have HR := Lib.hid (show L'.map key = L.map key ∧ (∀ x ∈ L', x.dirty = false) ∧ (∀ j, what (barD D') L' j = what D L j) ∧ (∀ j, (barD D').S.getD j [] = what D L j) ∧ CS w0 w2 X g dg nn most (t + 1025) (barD D') L' ∧ Keep X w w2 by
        have hI := HI.out
        have hcl : ∀ x ∈ L', x.dirty = false := fun x hx => hI.clean x hx (by
          rw [List.take_of_length_le (by rw [HV.out.2.1]; exact Nat.le_refl _)]
          have hm : x.s ∈ L.map Fr.s := by rw [← key_s hI.keys]; exact List.mem_map.2 ⟨x, hx, rfl⟩
          obtain ⟨z, hz, e⟩ := List.mem_map.1 hm
          rw [← e]; exact HV.out.2.2.1 z hz)
        have hw : ∀ j, what (barD D') L' j = what D' L' j := fun j => by
          unfold what
          rw [hI.st.hale.barR]
        have hrd : ∀ j, readS D' j = what D' L' j := fun j => by
          by_cases hj : ∃ z ∈ L', z.s = j
          · obtain ⟨z, hz, rfl⟩ := hj
            rw [what_yes hI.st.nodup hz]; exact (hI.st.clean z hz (hcl z hz)).symm
          · rw [what_no (fun z hz e => hj ⟨z, hz, e⟩)]
        have hst : Sta nn most (t + 1025) (barD D') L' := by
          have h9 := (hI.st.mono (show t + l ≤ t + 1024 by omega))
          exact ⟨h9.hale.bar, fun x hx hd => by rw [hI.st.hale.barR]; exact hI.st.clean x hx hd, fun x hx => ⟨(h9.inn x hx).1, by have := (h9.inn x hx).2.1; omega, (h9.inn x hx).2.2⟩, h9.nodup, h9.len, h9.top⟩
        have hrs := (HRUN.out.step r1 r2)
        refine ⟨hI.keys, hcl, fun j => (hw j).trans (hI.what_ j), fun j => by rw [hI.st.hale.barS, hrd, hI.what_], ?_, HK0.out.trans ((hI.keep.less fun k hk => .inl hk).trans (r2.less fun k hk => .inl (.inl hk)))⟩
        exact (CS.less (X := fun k => X k ∨ k = q) ⟨⟨mb, n, time, B, E', hrs, by have := HF.out.2.2.2.1; omega, by have := HF.out.2.2.2.2.1; omega⟩, hst, HF.out.2.2.1⟩ fun k hk => .inl hk))
      clear r1 r2
      go_wp2_with fail
      go_ret
      exact ⟨_, _, rfl, HR.out⟩
end
end Go.Proofs.YtolpgpphjnkehaaGreatDoor.Cac
/- cache: twin, full, same. -/
namespace Go.Proofs.YtolpgpphjnkehaaGreatDoor.Cac
set_option maxRecDepth 20000
open Go.RowKit Dsk
/-- Bytes of the call's own. -/
structure Own8 (w : World) (base : Nat) (A : Option Addr) (len c : Nat) (bs : List UInt8) : Prop where
  long : bs.length = len
  le : len ≤ c
  max : c ≤ maxLen
  bytes : Bytes w A bs
  blk : ∀ p : Addr, A = some p → base ≤ p.block ∧ p.block < w.heap.size
  may : 0 < len → ∃ q, A = some ⟨q, 0, none⟩ ∧ Rw w q len c bs
theorem Own8.below {w w' : World} {base : Nat} {A : Option Addr} {len c : Nat} {bs : List UInt8} (h : Own8 w base A len c bs) (hb : Below w.heap.size w w') : Own8 w' base A len c bs :=
  ⟨h.long, h.le, h.max, h.bytes.below hb, fun p e => ⟨(h.blk p e).1, Nat.lt_of_lt_of_le (h.blk p e).2 hb.size⟩, fun h0 => by obtain ⟨q, e, hr⟩ := h.may h0; exact ⟨q, e, hr.below hb⟩⟩
theorem own8_of {w : World} {base n : Nat} {v : Value} {bs : List UInt8} (h : w.ownsRow base 5 1 v n (bs.map bv)) : ∃ A c, v = .slice A n c ∧ Own8 w base A n c bs := by
  have hl : bs.length = n := by simpa using h.1
  have hs : ∃ A c, v = .slice A n c ∧ n ≤ c ∧ c ≤ maxLen ∧ (∀ p : Addr, A = some p → base ≤ p.block ∧ p.block < w.heap.size) ∧ (0 < n → ∃ q, A = some ⟨q, 0, none⟩) := by
    rcases h.2 with ⟨rfl, h0⟩ | ⟨g, cap, cur, rfl, h1, h2, h3, h4, _⟩
    · exact ⟨none, 0, by rw [h0], by omega, Nat.zero_le _, (fun p e => by cases e), fun h => by omega⟩
    · exact ⟨_, _, rfl, h3, h4, fun p e => by
        cases e
        exact ⟨h1, by
          rcases Nat.lt_or_ge g w.heap.size with hlt | hge
          · exact hlt
          · rw [Array.getElem?_eq_none hge] at h2; cases h2⟩, fun _ => ⟨g, rfl⟩⟩
  obtain ⟨A, c, rfl, h1, h2, h3, h4⟩ := hs
  exact ⟨A, c, rfl, hl, h1, h2, Bytes.of_own h, h3, fun h0 => by
    obtain ⟨q, rfl⟩ := h4 h0
    exact ⟨q, rfl, Rw.of_own h⟩⟩
/-- A slice that may be turned: its cells are bytes. -/
structure Mut (w : World) (g len : Nat) : Prop where
  lt : g < w.heap.size
  cell : ∀ j, j < len → ∃ b : UInt8, w.cell? ⟨g, j, none⟩ = some (bv b)
  free : ∀ j, j < len → w.frozen? ⟨g, j, none⟩ = false
theorem Rw.mut {w : World} {g len cap : Nat} {cs : List UInt8} (h : Rw w g len cap cs) : Mut w g len :=
  ⟨h.lt, fun j hj => ⟨cs[j]'(by rw [h.long]; exact hj), h.holds j _ (List.getElem?_eq_getElem _)⟩, fun j hj => (h.there j (Nat.lt_of_lt_of_le hj h.le)).2⟩
theorem Mut.same {w w' : World} {g len : Nat} (h : Mut w g len) (hs : w.heap.size ≤ w'.heap.size) (hb : w'.heap[g]? = w.heap[g]?) : Mut w' g len :=
  ⟨Nat.lt_of_lt_of_le h.lt hs, fun j hj => by obtain ⟨b, e⟩ := h.cell j hj; exact ⟨b, (World.cell?_of_block (a := ⟨g, j, none⟩) hb).trans e⟩, fun j hj => (World.frozen?_of_block (a := ⟨g, j, none⟩) hb).trans (h.free j hj)⟩
theorem Mut.set_ {w : World} {g len : Nat} (h : Mut w g len) (k : Nat) (c : UInt8) : Mut (w.setCell ⟨g, k, none⟩ (bv c)) g len := by
  refine ⟨by simp [World.setCell]; exact h.lt, fun j hj => ?_, fun j hj => by rw [World.frozen?_setCell]; exact h.free j hj⟩
  by_cases e : j = k
  · subst e
    obtain ⟨b, hb⟩ := h.cell j hj
    exact ⟨c, World.cell?_setCell_same w _ _ hb⟩
  · obtain ⟨b, hb⟩ := h.cell j hj
    exact ⟨b, by rw [World.cell?_setCell_other w _ _ _ (fun h => e (by injection h with h1 h2; exact h2.symm))]; exact hb⟩

end Go.Proofs.YtolpgpphjnkehaaGreatDoor.Cac
/- cache: which sectors are pinned, apart from memory. -/
namespace Go.Proofs.YtolpgpphjnkehaaGreatDoor.Cac
set_option maxRecDepth 20000
open Go.RowKit Dsk
/-- How often each sector is pinned. -/
structure Pn (P : Nat → Nat) (L : List Fr) : Prop where
  at_ : ∀ x ∈ L, x.pins = P x.s
  has : ∀ s, P s ≠ 0 → ∃ x ∈ L, x.s = s
def putP (P : Nat → Nat) (s v : Nat) : Nat → Nat := fun j => if j = s then v else P j
section
variable {nn most t s : Nat} {D D' : DS} {L L' : List Fr} {y : Fr} {P : Nat → Nat}
theorem Pn.nil : Pn (fun _ => 0) [] := ⟨(fun x hx => by cases hx), fun s h => absurd rfl h⟩
theorem Pn.room (h : Pn P L) (hr : Room most D L D' L') : Pn P L' := by
  rcases hr with ⟨_, rfl, rfl⟩ | ⟨_, x, hx, hp, rfl, rfl⟩
  · exact h
  · refine ⟨fun z hz => h.at_ z (delL_mem.1 hz).1, fun s hs => ?_⟩
    obtain ⟨z, hz, rfl⟩ := h.has s hs
    refine ⟨z, delL_mem.2 ⟨hz, fun e => hs ?_⟩, rfl⟩
    rw [e, ← h.at_ x hx, hp]
theorem Pn.add (h : Pn P L) (hno : ∀ x ∈ L, x.s ≠ y.s) (hp : y.pins = 0) : Pn P (L ++ [y]) := by
  have h0 : P y.s = 0 := by
    by_cases e : P y.s = 0
    · exact e
    · obtain ⟨z, hz, e'⟩ := h.has _ e
      exact absurd e' (hno z hz)
  refine ⟨fun z hz => ?_, fun s hs => ?_⟩
  · rcases List.mem_append.1 hz with hz | hz
    · exact h.at_ z hz
    · rw [List.mem_singleton.1 hz, hp, h0]
  · obtain ⟨z, hz, e⟩ := h.has s hs
    exact ⟨z, List.mem_append.2 (.inl hz), e⟩
theorem Pn.upd (h : Pn P L) (hy : ∃ x ∈ L, x.s = y.s) : Pn (putP P y.s y.pins) (updL y L) := by
  refine ⟨fun z hz => ?_, fun s hs => ?_⟩
  · rcases updL_mem hz with ⟨rfl, _⟩ | ⟨hz, hne⟩
    · unfold putP; rw [if_pos rfl]
    · unfold putP; rw [if_neg hne]; exact h.at_ z hz
  · by_cases e : s = y.s
    · exact ⟨y, updL_yes hy, e.symm⟩
    · unfold putP at hs
      rw [if_neg e] at hs
      obtain ⟨z, hz, rfl⟩ := h.has s hs
      exact ⟨z, List.mem_map.2 ⟨z, hz, by rw [if_neg e]⟩, rfl⟩
theorem putP_same (P : Nat → Nat) (s v : Nat) (h : P s = v) : putP P s v = P := by
  funext j
  unfold putP
  split
  · rename_i e; rw [e, h]
  · rfl
theorem Pn.updSame (h : Pn P L) {x : Fr} (hx : x ∈ L) (hs : y.s = x.s) (hp : y.pins = x.pins) : Pn P (updL y L) := by
  have := h.upd (y := y) ⟨x, hx, hs.symm⟩
  rw [putP_same P y.s y.pins (by rw [hs, hp]; exact (h.at_ x hx).symm)] at this
  exact this
theorem Room.sub (h : Room most D L D' L') : ∀ x ∈ L', x ∈ L := by
  rcases h with ⟨_, rfl, rfl⟩ | ⟨_, x, hx, hp, rfl, rfl⟩
  · exact fun x h => h
  · exact fun y hy => (delL_mem.1 hy).1
theorem Pn.brought (h : Pn P L) (hb : Brought most D L s D' L' y) : Pn P L' ∧ y.pins = P s := by
  rcases hb with ⟨x, hx, rfl, ey, rfl, rfl⟩ | ⟨hno, L1, hr, ey, rfl⟩
  · have e1 : y.s = x.s := by rw [ey]
    have e2 : y.pins = x.pins := by rw [ey]
    exact ⟨h.updSame hx e1 e2, by rw [e2]; exact h.at_ x hx⟩
  · have e1 : y.s = s := by rw [ey]
    have e2 : y.pins = 0 := by rw [ey]
    have h1 := (h.room hr).add (y := y) (fun x hx => by rw [e1]; exact hno x (hr.sub x hx)) e2
    exact ⟨h1, by rw [h1.at_ y (by simp), e1]⟩
theorem Pn.wrote {b : List UInt8} (h : Pn P L) (hb : Wrote most D L s b D' L' y) : Pn P L' := by
  rcases hb with ⟨x, hx, rfl, ey, rfl, rfl⟩ | ⟨hno, L1, hr, ey, rfl⟩
  · exact h.updSame hx (by rw [ey]) (by rw [ey])
  · exact (h.room hr).add (y := y) (fun x hx => by rw [ey]; exact hno x (hr.sub x hx)) (by rw [ey])
theorem Pn.pin (h : Pn P L) (hy : y ∈ L) (v : Nat) : Pn (putP P y.s v) (updL { y with pins := v } L) := h.upd (y := { y with pins := v }) ⟨y, hy, rfl⟩
theorem Pn.out (h : Pn P L) {x : Fr} (hx : x ∈ L) (hp : x.pins = 0) : Pn P (delL x.s L) := by
  refine ⟨fun z hz => h.at_ z (delL_mem.1 hz).1, fun s hs => ?_⟩
  obtain ⟨z, hz, rfl⟩ := h.has s hs
  refine ⟨z, delL_mem.2 ⟨hz, fun e => hs ?_⟩, rfl⟩
  rw [e, ← h.at_ x hx, hp]
/-- As many frames as sectors, and each of these has one: then no other one has. -/
theorem pig : ∀ (n : Nat) {L : List Fr}, L.Pairwise (fun x y => x.s ≠ y.s) → L.length ≤ n → (∀ i, i < n → ∃ x ∈ L, x.s = i) → L.length = n ∧ ∀ x ∈ L, x.s < n
  | 0, L, _, hl, _ => by
    have : L = [] := List.eq_nil_of_length_eq_zero (by omega)
    subst this
    exact ⟨rfl, fun x hx => by cases hx⟩
  | n + 1, L, hp, hl, hh => by
    have hd := delL_len hp (hh n (by omega))
    obtain ⟨x0, hx0, _⟩ := hh n (by omega)
    have hpos := List.length_pos_of_mem hx0
    obtain ⟨h1, h2⟩ := pig n (L := delL n L) (hp.filter _) (by omega) (fun i hi => by
      obtain ⟨x, hx, e⟩ := hh i (by omega)
      exact ⟨x, delL_mem.2 ⟨hx, by omega⟩, e⟩)
    have h1 : (delL n L).length = n := h1
    refine ⟨by omega, fun x hx => ?_⟩
    by_cases e : x.s = n
    · omega
    · have := h2 x (delL_mem.2 ⟨hx, e⟩)
      omega
theorem pigle : ∀ (n : Nat) {L : List Fr}, L.Pairwise (fun x y => x.s ≠ y.s) → (∀ x ∈ L, x.s < n) → L.length ≤ n
  | 0, L, _, h => by
    cases L with
    | nil => exact Nat.le_refl _
    | cons x L => exact absurd (h x (by simp)) (by omega)
  | n + 1, L, hp, h => by
    have ih := pigle n (L := delL n L) (hp.filter _) (fun x hx => by
      obtain ⟨h1, h2⟩ := delL_mem.1 (show x ∈ delL n L from hx)
      have := h x h1
      omega)
    have ih : (delL n L).length ≤ n := ih
    by_cases hx : ∃ x ∈ L, x.s = n
    · have := delL_len hp hx; omega
    · have e : delL n L = L := List.filter_eq_self.2 (fun x hx' => by have : x.s ≠ n := fun e => hx ⟨x, hx', e⟩; simpa using this)
      rw [e] at ih; omega
end
end Go.Proofs.YtolpgpphjnkehaaGreatDoor.Cac
/- cache: works, apart from memory. -/
namespace Go.Proofs.YtolpgpphjnkehaaGreatDoor.Cac
set_option maxRecDepth 20000
open Go.RowKit Dsk
def fA : List UInt8 := filled [97] 256
def fB : List UInt8 := filled [98] 256
theorem fA_len : fA.length = 256 := filled_length [97] 256 (by simp)
theorem fB_len : fB.length = 256 := filled_length [98] 256 (by simp)
section
variable {t : Nat} {D D' : DS} {L L' : List Fr} {y y1 : Fr} {b : List UInt8}
theorem wk1 (h : Wrote 2 D [] 3 b D' L' y) : D' = D ∧ L' = [y] ∧ y.s = 3 ∧ y.dirty = true ∧ y.pins = 0 ∧ y.b = b := by
  rcases h with ⟨x, hx, _⟩ | ⟨_, L1, hr, ey, rfl⟩
  · cases hx
  · rcases hr with ⟨_, rfl, rfl⟩ | ⟨hl, _⟩
    · exact ⟨rfl, rfl, by rw [ey], by rw [ey], by rw [ey], by rw [ey]⟩
    · simp at hl
theorem wk2 (h : Wrote 2 D [y1] 4 b D' L' y) (h1 : y1.s = 3) : D' = D ∧ L' = [y1, y] ∧ y.s = 4 ∧ y.dirty = true ∧ y.pins = 0 ∧ y.b = b := by
  rcases h with ⟨x, hx, e, _⟩ | ⟨_, L1, hr, ey, rfl⟩
  · rw [List.mem_singleton.1 hx] at e; omega
  · rcases hr with ⟨_, rfl, rfl⟩ | ⟨hl, _⟩
    · exact ⟨rfl, rfl, by rw [ey], by rw [ey], by rw [ey], by rw [ey]⟩
    · simp at hl
theorem wk3 {s : Nat} (h : Brought 2 D L s D' L' y) (hl : L.length = 2) (hn : L.Pairwise fun x y => x.s ≠ y.s) (hd : ∀ x ∈ L, x.dirty = true) (hno : ∀ x ∈ L, x.s ≠ s) : L'.length = 2 ∧ L'.countP (fun x => x.dirty) = 1 := by
  rcases h with ⟨x, hx, e, _⟩ | ⟨_, L1, hr, ey, rfl⟩
  · exact absurd e (hno x hx)
  · rcases hr with ⟨h2, _⟩ | ⟨_, x, hx, _, _, rfl⟩
    · omega
    · have h1 := delL_len hn ⟨x, hx, rfl⟩
      have h2 : (delL x.s L).countP (fun x => x.dirty) = (delL x.s L).length := List.countP_eq_length.2 (fun z hz => hd z (delL_mem.1 hz).1)
      rw [List.length_append, List.countP_append, h2, h1, hl, ey]
      exact ⟨rfl, rfl⟩
theorem nostuck0 {most s : Nat} {P : Nat → Nat} (hp : Pn P L) {x : Fr} (hx : x ∈ L) (h0 : P x.s = 0) : ¬ Stuck most L s := fun h => h.1.2 x hx ((hp.at_ x hx).trans h0)
theorem two_frames (hn : L.Pairwise fun x y => x.s ≠ y.s) (hl : L.length ≤ 2) {a b : Nat} (hab : a ≠ b) (ha : ∃ x ∈ L, x.s = a) (hb : ∃ x ∈ L, x.s = b) : L.length = 2 ∧ ∀ x ∈ L, x.s = a ∨ x.s = b := by
  have h1 := delL_len hn ha
  obtain ⟨xb, hxb, eb⟩ := hb
  have hb' : ∃ x ∈ delL a L, x.s = b := ⟨xb, delL_mem.2 ⟨hxb, by omega⟩, eb⟩
  have h2 := delL_len (hn.filter _) hb'
  have h2 : (delL b (delL a L)).length = (delL a L).length - 1 := h2
  obtain ⟨xb', hxb', _⟩ := hb'
  have hp1 := List.length_pos_of_mem hxb'
  obtain ⟨xa, hxa, _⟩ := ha
  have hp2 := List.length_pos_of_mem hxa
  have h3 : delL b (delL a L) = [] := List.eq_nil_of_length_eq_zero (by omega)
  refine ⟨by omega, fun x hx => ?_⟩
  by_cases e1 : x.s = a
  · exact .inl e1
  · by_cases e2 : x.s = b
    · exact .inr e2
    · have : x ∈ delL b (delL a L) := delL_mem.2 ⟨delL_mem.2 ⟨hx, e1⟩, e2⟩
      rw [h3] at this; cases this
/-- Frames 3 and 5 are pinned: no other one comes. -/
theorem wk6 {P : Nat → Nat} (hp : Pn P L) (hn : L.Pairwise fun x y => x.s ≠ y.s) (hl : L.length ≤ 2) (h3 : P 3 ≠ 0) (h5 : P 5 ≠ 0) : ¬ Brought 2 D L 6 D' L' y := by
  obtain ⟨e1, e2⟩ := two_frames hn hl (show 3 ≠ 5 by omega) (hp.has 3 h3) (hp.has 5 h5)
  intro h
  rcases h with ⟨x, hx, e, _⟩ | ⟨_, L1, hr, _⟩
  · have := e2 x hx; omega
  · rcases hr with ⟨h2, _⟩ | ⟨_, x, hx, h0, _⟩
    · omega
    · rw [hp.at_ x hx] at h0
      rcases e2 x hx with e | e
      · rw [e] at h0; exact h3 h0
      · rw [e] at h0; exact h5 h0
theorem nostuck3 {P : Nat → Nat} {s : Nat} (hp : Pn P L) (hn : L.Pairwise fun x y => x.s ≠ y.s) (h : ∀ j, j ≠ 3 → P j = 0) : ¬ Stuck 2 L s := fun hs => by
  have hall : ∀ x ∈ L, x.s = 3 := fun x hx => by
    by_cases e : x.s = 3
    · exact e
    · exact absurd ((hp.at_ x hx).trans (h _ e)) (hs.1.2 x hx)
  have hl := hs.1.1
  match L, hl, hn, hall with
  | a :: b :: L, _, hn, hall =>
    have h1 := (List.pairwise_cons.1 hn).1 b (by simp)
    exact h1 ((hall a (by simp)).trans (hall b (by simp)).symm)
  | [_], hl, _, _ => simp at hl
  | [], hl, _, _ => simp at hl
end
theorem what_pin {D : DS} {L : List Fr} (hn : L.Pairwise fun x y => x.s ≠ y.s) {y : Fr} (hy : y ∈ L) (v j : Nat) : what D (updL { y with pins := v } L) j = what D L j := by
  rw [what_upd hn (y := { y with pins := v }) ⟨y, hy, rfl⟩]
  split
  · rename_i e; rw [e]; exact (what_yes hn hy).symm
  · rfl
theorem Pn.pinned {most s : Nat} {D D' : DS} {L L' : List Fr} {y : Fr} {P : Nat → Nat} (h : Pn P L) (hb : Brought most D L s D' L' y) (hy : y ∈ L') : Pn (putP P s (P s + 1)) (updL { y with pins := y.pins + 1 } L') := by
  obtain ⟨p1, p2⟩ := h.brought hb
  have h2 := p1.pin hy (y.pins + 1)
  have h3 : putP P y.s (y.pins + 1) = putP P s (P s + 1) := by rw [hb.sec, p2]
  rw [h3] at h2
  exact h2
/-- While works works. -/
structure WS (w0 w : World) (X : Nat → Prop) (g dg t : Nat) (P : Nat → Nat) (D : DS) (L : List Fr) : Prop where
  cs : CS w0 w X g dg 16 2 t D L
  pn : Pn P L
  a : what D L 3 = fA
  b : what D L 4 = fB
/-- A byte in a block that is marked behind its last cell. -/
theorem lit_bytes (w : World) (x : UInt8) : Bytes (w.alloc (.cells #[.int .u8 (x.toNat : Int)] 5 (1, 2))) (some ⟨w.heap.size, 0, none⟩) [x] := fun k c hk => by
  refine ⟨w.heap.size, 0, rfl, by simp, ?_⟩
  have h := World.cell?_alloc_mark w #[.int .u8 (x.toNat : Int)] 5 (1, 2) (0 + k)
  refine h.trans ?_
  have hr := row8_get k c hk
  rw [Nat.zero_add]
  exact hr
theorem run_lit (x : Int) (w : World) : (convert 32 32 (.slice (some ⟨w.heap.size, 0, none⟩) 1 1)).run Tryz.prog (w.alloc (.cells #[.int .u8 x] 5)) = .ok (.slice (some ⟨w.heap.size, 0, none⟩) 1 1) (w.alloc (.cells #[.int .u8 x] 5 (1, 2))) :=
  Lib.run_convert_bytes_const w 32 5 _ 1 1 Tryz.underlying32 Tryz.underlying5
theorem litD_below (w : World) (x : Int) : Below w.heap.size w (w.alloc (.cells #[.int .u8 x] 5 (1, 2))).drew := ((Below.refl _ w).alloc (Nat.le_refl _) _).drew
theorem lit_below (w : World) (x : Int) : Below w.heap.size w (w.alloc (.cells #[.int .u8 x] 5 (1, 2))) := (Below.refl _ w).alloc (Nat.le_refl _) _
/-- The mark of a literal whose block was laid before. -/
theorem run_litL (w : World) (g : Nat) (x : UInt8) (h : w.heap[g]? = some (.cells #[.int .u8 (x.toNat : Int)] 5 (0, 0))) :
    ∃ vf, (convert 32 32 (.slice (some ⟨g, 0, none⟩) 1 1)).run Tryz.prog w = .ok (.slice (some ⟨g, 0, none⟩) 1 1) vf ∧ Off (fun k => k = g) w vf ∧ Bytes vf (some ⟨g, 0, none⟩) [x] := by
  have hlt : g < w.heap.size := Blk.lt (t := 5) h
  have hsh : w.shape? g = some (5, 1) := by
    unfold World.shape?
    rw [h]; rfl
  have hg : (w.freeze ⟨g, 1, none⟩ 1).heap[g]? = some (.cells #[.int .u8 (x.toNat : Int)] 5 (1, 2)) := by
    unfold World.freeze
    rw [if_neg (by decide)]
    simp only [Array.getElem?_modify, h, if_true]
    rfl
  have hs : (w.freeze ⟨g, 1, none⟩ 1).heap.size = w.heap.size := by
    unfold World.freeze
    rw [if_neg (by decide)]
    simp
  refine ⟨w.freeze ⟨g, 1, none⟩ 1, ?_, ⟨?_, ?_, ?_, by rw [hs]; exact Nat.le_refl _, fun k hk hn => ?_⟩, fun k c hk => ?_⟩
  · simp [convert, run_underlying Tryz.underlying32, run_underlying Tryz.underlying5, markStringish, hsh]
  · unfold World.freeze; rw [if_neg (by decide)]
  · unfold World.freeze; rw [if_neg (by decide)]
  · unfold World.freeze; rw [if_neg (by decide)]
  · unfold World.freeze
    rw [if_neg (by decide)]
    simp only [Array.getElem?_modify]
    rw [if_neg (fun e => hn e.symm)]
  · refine ⟨g, 0, rfl, by rw [hs]; exact hlt, ?_⟩
    rcases k with _ | k
    · cases hk
      simp [World.cell?, hg]
    · simp at hk
theorem litB (v1 v2 : World) (b : List UInt8) (A : Option Addr) (v : Value) (hb : Below (v1.heap.size + 1) (v1.alloc (.cells #[.int .u8 98] 5)) v2) (hy : Bytes v2 A b) (hE : ∀ p : Addr, A = some p → v1.heap.size + 1 < p.block ∧ p.block < v2.heap.size)
    (hx : v2.cell? ⟨v1.heap.size + 1, 4, none⟩ = some v) (hlt : v1.heap.size + 1 < v2.heap.size) :
    ∃ vf, (convert 32 32 (.slice (some ⟨v1.heap.size, 0, none⟩) 1 1)).run Tryz.prog v2 = .ok (.slice (some ⟨v1.heap.size, 0, none⟩) 1 1) vf ∧ vf.cell? ⟨v1.heap.size + 1, 4, none⟩ = some v ∧ Below v1.heap.size v1 vf ∧ Bytes vf A b ∧ v1.heap.size + 1 < vf.heap.size ∧ Bytes vf (some ⟨v1.heap.size, 0, none⟩) [98] := by
  have hl : v2.heap[v1.heap.size]? = some (.cells #[.int .u8 98] 5 (0, 0)) := (hb.block v1.heap.size (Nat.lt_succ_self _)).trans (heap_alloc_new v1 _)
  obtain ⟨vf, hcv, hof, hbf⟩ := run_litL v2 v1.heap.size 98 hl
  have hb0 : Below v1.heap.size v1 v2 := ((Below.refl _ _).alloc (Nat.le_refl _) _).trans (hb.mono (Nat.le_succ _))
  refine ⟨vf, hcv, (World.cell?_of_block (a := ⟨v1.heap.size + 1, 4, none⟩) (hof.block _ hlt (fun e => Nat.succ_ne_self _ e))).trans hx, hb0.trans (hof.below hb0.size (fun k e => Nat.le_of_eq (Eq.symm e))), hy.same hof.size (fun p e hp => hof.block _ hp (fun e' => ?_)), Nat.lt_of_lt_of_le hlt hof.size, hbf⟩
  have e'' : p.block = v1.heap.size := e'
  have h9 := (hE p e).1
  omega
section
variable {w0 w w' : World} {X : Nat → Prop} {g dg t nn most : Nat} {P : Nat → Nat} {D : DS} {L : List Fr}
theorem CS.image (h : CS w0 w X g dg nn most t D L) :
    Calls Tryz.prog 23 #[.pointer (some ⟨dg, 0, none⟩)] w fun e w' => e = .returned (.slice (some ⟨w.heap.size, 0, none⟩) nn nn) ∧ Secs w' (fun j => w.heap.size < j ∧ j < w'.heap.size) w.heap.size D.S ∧ Below w.heap.size w w' := by
  obtain ⟨⟨mb, n, time, B, E, h1, h2, h5⟩, h3, h4⟩ := h
  have := h1.run.image
  rw [h3.hale.len] at this
  exact this
theorem Secs.cell {w : World} {E : Nat → Prop} {g k : Nat} {S : List (List UInt8)} {b : List UInt8} (h : Secs w E g S) (hk : k < S.length) (hb : S.getD k [] = b) : ∃ A c, w.cell? ⟨g, k, none⟩ = some (.slice A b.length c) ∧ Bytes w A b ∧ ∀ p : Addr, A = some p → E p.block := by
  have e : S[k]? = some b := by
    rw [List.getElem?_eq_getElem hk]
    rw [List.getD, List.getElem?_eq_getElem hk] at hb
    exact congrArg some hb
  obtain ⟨v, hv, A, c, rfl, _, _, hby, hE⟩ := h.at_ e
  exact ⟨A, c, hv, hby, hE⟩
theorem WS.below (h : WS w0 w X g dg t P D L) (hb : Below w.heap.size w w') : WS w0 w' X g dg t P D L := ⟨h.cs.below hb, h.pn, h.a, h.b⟩
theorem run_litD (x : Int) (w : World) : (convert 32 32 (.slice (some ⟨w.heap.size, 0, none⟩) 1 1)).run Tryz.prog (w.alloc (.cells #[.int .u8 x] 5)).drew = .ok (.slice (some ⟨w.heap.size, 0, none⟩) 1 1) (w.alloc (.cells #[.int .u8 x] 5 (1, 2))).drew :=
  run_lit x w.drew
/-- A byte of the call's own is written. -/
theorem CS.write1 {nn most s : Nat} (h : CS w0 w X g dg nn most t D L) (x : UInt8) (hs : s < nn) (ht : t < 900000) (hx : L.length < most) :
    Calls Tryz.prog 96 #[.pointer (some ⟨g, 0, none⟩), .int .i64 (s : Int), .slice (some ⟨w.heap.size, 0, none⟩) 1 1] (w.alloc (.cells #[.int .u8 (x.toNat : Int)] 5 (1, 2))) fun e w' =>
      ∃ D' L' y, e = .returned (.int .i64 0) ∧ Wrote most D L s (filled [x] 256) D' L' y ∧ CS w0 w' X g dg nn most (t + 1) D' L' ∧ Keep X w w' := by
  have hb : Below w.heap.size w (w.alloc (.cells #[.int .u8 (x.toNat : Int)] 5 (1, 2))) := (Below.refl _ _).alloc (Nat.le_refl _) _
  have h1 := h.more hb (fun k => X k ∨ k = w.heap.size) (fun k hk => hk.imp id fun e => by rw [World.size_alloc]; omega)
  refine (h1.write (some ⟨w.heap.size, 0, none⟩) 1 1 [x] hs ht rfl (by omega) (lit_bytes w x) (fun p e => .inr (by cases e; rfl))).mono ?_
  rintro e w' (⟨rfl, k1, _⟩ | ⟨D', L', y, rfl, k1, k2, k3⟩)
  · have := k1.1.1; omega
  · exact ⟨D', L', y, rfl, k1, k2.less fun k hk => .inl hk, ⟨Nat.le_trans hb.size k3.size, fun k hk => (k3.at_ k (.inl hk)).trans (hb.block k (h.lt k hk))⟩⟩
end
end Go.Proofs.YtolpgpphjnkehaaGreatDoor.Cac
