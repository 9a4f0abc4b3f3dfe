/- cover: CoverMany. -/
import Derived.Test.YtigaondgopahgaaWl
namespace Go.Proofs.Ytigaondgopahgaa
open Go.RowKit Ty
set_option linter.unusedVariables false
set_option linter.unusedSimpArgs false
attribute [local go_sem] Oper.semAt_some
/-- Check, with no infos. -/
theorem checkN (ps : List Ty) (A : Option Addr) (n c : Nat) (whole : Bool) (k : Nat) (e0 : Int) (w : World) (hP : PAt Everywhere w A n c ps) (ht : told [] ps whole = k) (he : errOf k = e0) :
    Calls Try.prog 11 #[.slice A n c, .slice none 0 0, .bool whole] w fun e w' => e = .returned (.int .i64 e0) ∧ Below w.heap.size w w' :=
  (check_any (F := Everywhere) ps A n c [] none 0 0 whole w hP ⟨rfl, Nat.le_refl _, Nat.zero_le _, fun r x hx => by simp at hx⟩ (by decide)).mono fun e w' h => ⟨by rw [h.1, ← he, ← ht]; rfl, h.2⟩
theorem flatE_set : ∀ (es : List Te) (i : Nat) (e : Te) (v0 v1 v2 v3 : Value), i < es.length → e.cells = [v0, v1, v2, v3] → flatE (es.set i e) = ((((flatE es).set (i * 4) v0).set (i * 4 + 1) v1).set (i * 4 + 2) v2).set (i * 4 + 3) v3
  | [], i, e, _, _, _, _, h, _ => by simp at h
  | y :: es, 0, e, v0, v1, v2, v3, h, he => by
    rw [List.set_cons_zero, flatE_cons, flatE_cons, he]
    show _ = ((((y.cells ++ flatE es).set 0 v0).set 1 v1).set 2 v2).set 3 v3
    have : y.cells = [.int .u8 (y.t.k : Int), .string (str y.t.nm), .int .i64 y.t.n, .slice y.A y.t.ks.length y.c] := rfl
    rw [this]
    rfl
  | y :: es, i + 1, e, v0, v1, v2, v3, h, he => by
    have ih := flatE_set es i e v0 v1 v2 v3 (by simpa using h) he
    have hl := Te.cells_len y
    rw [List.set_cons_succ, flatE_cons, flatE_cons, ih]
    rw [show (i + 1) * 4 = i * 4 + 4 by omega]
    rw [List.set_append_right _ _ (by rw [hl]; omega), List.set_append_right _ _ (by rw [hl]; omega), List.set_append_right _ _ (by rw [hl]; omega), List.set_append_right _ _ (by rw [hl]; omega), hl]
    rw [show i * 4 + 4 - 4 = i * 4 by omega, show i * 4 + 4 + 1 - 4 = i * 4 + 1 by omega, show i * 4 + 4 + 2 - 4 = i * 4 + 2 by omega, show i * 4 + 4 + 3 - 4 = i * 4 + 3 by omega]
/-- One of the row is written over. -/
theorem PtO.put {F : Nat → Prop} {B : Nat} {w : World} {g N c : Nat} {es : List Te} (h : PtO F B w (.slice (some ⟨g, 0, none⟩) N c) es) {i : Nat} (hi : i < es.length) (e : Te) {v0 v1 v2 v3 : Value} (hv : e.cells = [v0, v1, v2, v3]) (hin : e.in_ (fun b => F b ∧ (Value.slice (some ⟨g, 0, none⟩) N c).ownBlock ≠ some b) w) :
    (∀ j, j < 4 → ∃ p, w.cell? ⟨g, i * 4 + j, none⟩ = some p) ∧ (∀ j, w.frozen? ⟨g, j, none⟩ = false) ∧ B ≤ g ∧ PtO F B ((((w.setCell ⟨g, i * 4, none⟩ v0).setCell ⟨g, i * 4 + 1, none⟩ v1).setCell ⟨g, i * 4 + 2, none⟩ v2).setCell ⟨g, i * 4 + 3, none⟩ v3) (.slice (some ⟨g, 0, none⟩) N c) (es.set i e) := by
  have hN : N = es.length := by
    rcases h.own.2 with ⟨e2, h0⟩ | ⟨g', cap, cur, e2, _⟩
    · cases e2
    · injection e2
  subst hN
  have hlt := h.own.lt g rfl
  have hlen := h.own.1
  refine ⟨fun j hj => ?_, fun j => h.own.frozenAt j, hlt.1, ⟨?_, fun x hx => ?_⟩⟩
  · have h2 : (flatE es)[i * 4 + j]? = some ((flatE es)[i * 4 + j]'(by rw [flatE_len]; omega)) := List.getElem?_eq_getElem _
    have := h.own.cellAt (i * 4 + j) (by omega)
    rw [h2] at this
    exact ⟨_, this⟩
  · rw [List.length_set, flatE_set es i e v0 v1 v2 v3 hi hv]
    exact ((((h.own.stored (i * 4) v0).1.stored (i * 4 + 1) v1).1.stored (i * 4 + 2) v2).1.stored (i * 4 + 3) v3).1
  · have ho := offR w g i v0 v1 v2 v3
    have hng : ∀ b, F b ∧ (Value.slice (some ⟨g, 0, none⟩) es.length c).ownBlock ≠ some b → ¬ b = g := fun b hb e2 => hb.2 (by rw [e2]; rfl)
    rcases List.mem_or_eq_of_mem_set hx with hx | rfl
    · exact (h.kids x hx).off ho hng
    · exact hin.off ho hng
theorem PtO.form {F : Nat → Prop} {B : Nat} {w : World} {A : Option Addr} {N c : Nat} {es : List Te} (h : PtO F B w (.slice A N c) es) (hN : N ≠ 0) : ∃ g, A = some ⟨g, 0, none⟩ := by
  rcases h.own.2 with ⟨e2, h0⟩ | ⟨g', cap, cur, e2, _⟩
  · cases e2; exact absurd rfl hN
  · injection e2 with e2; exact ⟨g', e2⟩
theorem PtO.cells {F : Nat → Prop} {B : Nat} {w : World} {g N c : Nat} {es : List Te} (h : PtO F B w (.slice (some ⟨g, 0, none⟩) N c) es) {r : Nat} {e : Te} (he : es[r]? = some e) {v0 v1 v2 v3 : Value} (hv : e.cells = [v0, v1, v2, v3]) : w.cell? ⟨g, r * 4, none⟩ = some v0 ∧ w.cell? ⟨g, r * 4 + 1, none⟩ = some v1 ∧ w.cell? ⟨g, r * 4 + 2, none⟩ = some v2 ∧ w.cell? ⟨g, r * 4 + 3, none⟩ = some v3 := by
  have hr := (List.getElem?_eq_some_iff.1 he).1
  have hN : N = es.length := by
    rcases h.own.2 with ⟨e2, h0⟩ | ⟨g', cap, cur, e2, _⟩
    · cases e2
    · injection e2
  subst hN
  have key : ∀ (j : Nat) (v : Value), j < 4 → e.cells[j]? = some v → w.cell? ⟨g, r * 4 + j, none⟩ = some v := fun j v hj hjv => by
    have h1 := h.own.cellAt (r * 4 + j) (by omega)
    rw [flatE_get he hjv] at h1
    exact h1
  exact ⟨key 0 v0 (by omega) (by rw [hv]; rfl), key 1 v1 (by omega) (by rw [hv]; rfl), key 2 v2 (by omega) (by rw [hv]; rfl), key 3 v3 (by omega) (by rw [hv]; rfl)⟩
def numE (k : Nat) : Te := tE (num ((k : Int) - 100))
theorem ok_num {k : Nat} (h : k < 1000) : (num ((k : Int) - 100)).ok := ⟨(by show 3 < 256; decide), ⟨(by show _ ≤ (k : Int) - 100; omega), (by show (k : Int) - 100 < _; omega)⟩, Nat.zero_le _⟩
theorem numE_in {F : Nat → Prop} {w : World} {k : Nat} (h : k < 1000) : (numE k).in_ F w := tE_in rfl (ok_num h)
theorem numE_cells (k : Nat) : (numE k).cells = [.int .u8 3, .string ⟨#[]⟩, .int .i64 ((k : Int) - 100), .slice none 0 0] := rfl
def numsE (n : Nat) : List Te := (List.range n).map numE
theorem numsE_succ (n : Nat) : numsE (n + 1) = numsE n ++ [numE n] := by unfold numsE; rw [List.range_succ, List.map_append]; rfl
theorem numsE_len (n : Nat) : (numsE n).length = n := by unfold numsE; simp
theorem numsE_get {n k : Nat} (h : k < n) : (numsE n)[k]? = some (numE k) := by unfold numsE; rw [List.getElem?_map, List.getElem?_range h]; rfl
def numsI (n : Nat) : List Int := (List.range n).map fun k : Nat => (k : Int) - 100
theorem numsE_map (n : Nat) : (numsE n).map Te.t = (numsI n).map num := by unfold numsE numsI; rw [List.map_map, List.map_map]; rfl
theorem numsI_nodup (n : Nat) : (numsI n).Nodup := by
  unfold numsI
  refine List.Pairwise.map _ (fun a b h => ?_) List.nodup_range
  omega
theorem many_a {n : Nat} (h : 200 < n) (b : Bool) : told [] ((numsE n).map Te.t) b = 1 := by
  rw [numsE_map, told_num, if_pos (by unfold numsI; simpa using h)]
theorem many_b {n : Nat} (h : n ≤ 200) (b : Bool) : told [] ((numsE n).map Te.t) b = if b then 4 else 0 := by
  rw [numsE_map, told_num, if_neg (by unfold numsI; simp; omega), decide_eq_true (numsI_nodup n)]
  rfl
theorem many_c {n k : Nat} (h : n < 200) (hk : k < n) : told [] ((numsE n ++ [numE k]).map Te.t) false = 4 := by
  have : (numsE n ++ [numE k]).map Te.t = (numsI n ++ [(k : Int) - 100]).map num := by rw [List.map_append, numsE_map, List.map_append]; rfl
  rw [this, told_num, if_neg (by unfold numsI; simp; omega), decide_eq_false]
  · rfl
  · intro hd
    rw [List.nodup_append] at hd
    exact hd.2.2 ((k : Int) - 100) (by unfold numsI; exact List.mem_map.2 ⟨k, List.mem_range.2 hk, rfl⟩) _ (List.mem_singleton.2 rfl) rfl
theorem many_d {n : Nat} (h : n < 200) : told [] ((numsE n ++ [tE any]).map Te.t) true = 0 := by
  have e : (numsE n ++ [tE any]).map Te.t = (numsE n).map Te.t ++ [any] := by rw [List.map_append]; rfl
  rw [e]
  have h1 := many_b (n := n) (by omega) true
  have h0 := many_b (n := n) (by omega) false
  have hp : partss ((numsE n).map Te.t) = n := by rw [numsE_map, partss_num]; unfold numsI; simp
  exact (told_wild [] _ (by rw [hp]; omega) h0).2.2 h1
/-- How far the loop has come. -/
structure MaI (w wr : World) (i : Nat) (lv : Value) : Prop where
  bel : Below w.heap.size w wr
  own : PtO Everywhere w.heap.size wr lv (numsE i)
theorem one_cells {w : World} {g : Nat} {e : Te} {v0 v1 v2 v3 : Value} (hB : Blk w g 40 #[v0, v1, v2, v3]) (he : e.cells = [v0, v1, v2, v3]) : ∀ (j : Nat) (u : Value), (flatE [e])[j]? = some u → w.cell? ((⟨g, 0, none⟩ : Addr).add j) = some u := fun j u hj => by
  have e1 : flatE [e] = [v0, v1, v2, v3] := by rw [flatE_cons, he]; rfl
  rw [e1] at hj
  rw [add_off, Nat.zero_add, hB.cell j]
  have hjl : j < 4 := (List.getElem?_eq_some_iff.1 hj).1
  match j, hjl with
  | 0, _ => exact hj
  | 1, _ => exact hj
  | 2, _ => exact hj
  | 3, _ => exact hj
set_option maxRecDepth 20000 in
set_option maxHeartbeats 8000000 in
theorem many_law (n t : Nat) (hn : n < 256) (ht : t < 256) (w : World) :
    Calls Try.prog 7 #[.int .u8 (n : Int), .int .u8 (t : Int)] w fun e w' => e = .returned (.bool true) ∧ Below w.heap.size w w' := by
  go_enter Try.func7, Try.ntmps7
  go_wp2_with fail
  go_loopw [5, 6] (fun lv iv wr => ∃ (i : Nat) (A : Option Addr) (c : Nat), i ≤ n ∧ iv = .int .i64 (i : Int) ∧ lv = .slice A i c ∧ Hid (MaI w wr i (.slice A i c))) (fun _ iv _ => n - (intOf iv).toNat)
  case atStart => exact ⟨0, none, 0, Nat.zero_le _, rfl, rfl, Lib.hid ⟨Below.refl _ _, PtO.nil _ _ _⟩⟩
  case round =>
    obtain ⟨i, A, c, hi, rfl, rfl, hX⟩ := hrel
    by_cases hli : i < n
    · have hd : decide ((i : Int) < (n : Int)) = true := by simpa using hli
      obtain ⟨w2, hw2⟩ : ∃ w2, wr.alloc (.cells #[.int .u8 3, .string ⟨#[]⟩, .int .i64 ((i : Int) - 100), .slice none 0 0] 40) = w2 := ⟨_, rfl⟩
      have hb2 : Below wr.heap.size wr w2 := by rw [← hw2]; exact (Below.refl _ _).alloc (Nat.le_refl _) _
      have hB2 : Blk w2 wr.heap.size 40 #[.int .u8 3, .string ⟨#[]⟩, .int .i64 ((i : Int) - 100), .slice none 0 0] := by rw [← hw2]; exact Blk.new _ _ _
      have hO := hX.out.own.below hb2
      have hwb := hX.out.bel.trans (hb2.mono hX.out.bel.size)
      obtain ⟨v', w3, hrun, hO3, hgr⟩ := hO.app hwb.size [numE i] ⟨wr.heap.size, 0, none⟩ 1 1 rfl (one_cells hB2 (numE_cells i)) (fun e he => by rw [List.mem_singleton.1 he]; exact numE_in (by omega)) (by rw [numsE_len]; omega)
      obtain ⟨A3, c3, rfl, _⟩ := hO3.shape
      rw [← numsE_succ] at hrun hO3
      rw [numsE_len] at hrun hO3
      have HN : Hid (MaI w w3 (i + 1) (.slice A3 (i + 1) c3)) := Lib.hid ⟨hwb.trans (hO.bel hgr (Nat.le_refl _) hwb.size), hO3⟩
      have HR := Lib.hid hrun
      have HW := Lib.hid hw2
      clear hb2 hB2 hO hwb hrun hO3 hgr hw2 hX
      go_upto_region 5 with fail
      have hw2 := HW.out
      have hrun := HR.out
      go_wp2_with (at_builtin; refine wpList_app rfl _ _ 22 rfl _ _ _ _ rfl rfl hrun ?_)
      go_roundw
      case rel => exact ⟨i + 1, A3, c3, by omega, by go_num, rfl, HN⟩
      case measure => simp [intOf]; omega
    · obtain rfl : i = n := by omega
      have hd : decide ((i : Int) < (i : Int)) = false := by simp
      obtain ⟨A2, c2, e2, hP2⟩ := hX.out.own.shape
      rw [numsE_len] at e2 hP2
      injection e2 with e3 e4 e5
      rw [← e3, ← e5] at hP2
      have hP := hP2.mono (G := Everywhere) fun _ _ => trivial
      have HP := Lib.hid hP
      have HX := Lib.hid (And.intro hX.out.bel hX.out.own)
      clear hX e3 e4 e5 hP2 hP
      by_cases h200 : 200 < i
      · have hg : decide ((i : Int) > 200) = true := by simp; omega
        have hg2 : decide ((200 : Int) < (i : Int)) = true := by simp; omega
        have HC1 := Lib.hid (checkN ((numsE i).map Te.t) A i c false 1 16 wr HP.out (many_a h200 false) rfl)
        go_wp2_with fail
        refine HC1.out.mono ?_
        rintro e w4 ⟨rfl, hb4⟩
        have HC2 := Lib.hid (checkN ((numsE i).map Te.t) A i c true 1 16 w4 (HP.out.bel hb4) (many_a h200 true) rfl)
        go_wp2_with fail
        refine HC2.out.mono ?_
        rintro e w5 ⟨rfl, hb5⟩
        have HB := Lib.hid (HX.out.1.trans ((hb4.trans (hb5.mono hb4.size)).mono HX.out.1.size))
        clear hb4 hb5 HC1 HC2
        go_wp2_with fail
        refine (works_any w5).mono ?_
        rintro e w6 ⟨rfl, hb6⟩
        have HB6 := Lib.hid (HB.out.trans (hb6.mono HB.out.size))
        clear hb6
        go_wp2_with fail
        go_ret
        exact ⟨rfl, HB6.out⟩
      · have hg : decide ((i : Int) > 200) = false := by simp; omega
        have hg2 : decide ((200 : Int) < (i : Int)) = false := by simp; omega
        have HC1 := Lib.hid (checkN ((numsE i).map Te.t) A i c false 0 0 wr HP.out (many_b (by omega) false) rfl)
        go_wp2_with fail
        refine HC1.out.mono ?_
        rintro e w4 ⟨rfl, hb4⟩
        have HC2 := Lib.hid (checkN ((numsE i).map Te.t) A i c true 4 14 w4 (HP.out.bel hb4) (many_b (by omega) true) rfl)
        go_wp2_with fail
        refine HC2.out.mono ?_
        rintro e w5 ⟨rfl, hb5⟩
        have HB := Lib.hid (And.intro (HX.out.1.trans ((hb4.trans (hb5.mono hb4.size)).mono HX.out.1.size)) (hb4.trans (hb5.mono hb4.size)))
        clear hb4 hb5 HC1 HC2
        have hz : (((i : Nat) : Int) == 0) = decide (i = 0) := eq_of i 0
        have hz2 : (((i : Nat) : Int) == 200) = decide (i = 200) := eq_of i 200
        by_cases e0 : i = 0 ∨ i = 200
        · by_cases e1 : i = 0
          · rw [decide_eq_true e1] at hz
            clear e0 e1 hz2
            go_wp2_with fail
            refine (works_any w5).mono ?_
            rintro e w6 ⟨rfl, hb6⟩
            have HB6 := Lib.hid (HB.out.1.trans (hb6.mono HB.out.1.size))
            clear hb6
            go_wp2_with fail
            go_ret
            exact ⟨rfl, HB6.out⟩
          · have e2 : i = 200 := by omega
            rw [decide_eq_false e1] at hz
            rw [decide_eq_true e2] at hz2
            clear e0 e1 e2
            go_wp2_with fail
            refine (works_any w5).mono ?_
            rintro e w6 ⟨rfl, hb6⟩
            have HB6 := Lib.hid (HB.out.1.trans (hb6.mono HB.out.1.size))
            clear hb6
            go_wp2_with fail
            go_ret
            exact ⟨rfl, HB6.out⟩
        · have hi0 : 0 < i := by omega
          have hi2 : i < 200 := by omega
          rw [decide_eq_false (by omega)] at hz hz2
          clear e0
          obtain ⟨g, rfl⟩ := HX.out.2.form (by omega)
          obtain ⟨k, hk⟩ : ∃ k, t % i = k := ⟨_, rfl⟩
          have hki : k < i := by rw [← hk]; exact Nat.mod_lt _ hi0
          have hkm : (t : Int) % (i : Int) = (k : Int) := by rw [← hk]; omega
          have hO5 := HX.out.2.below HB.out.2
          obtain ⟨z0, z1, z2, z3⟩ := hO5.cells (numsE_get hki) (numE_cells k)
          obtain ⟨w6, hw6⟩ : ∃ w6, w5.alloc (.cells #[.int .u8 3, .string ⟨#[]⟩, .int .i64 ((k : Int) - 100), .slice none 0 0] 40) = w6 := ⟨_, rfl⟩
          have hb6 : Below w5.heap.size w5 w6 := by rw [← hw6]; exact (Below.refl _ _).alloc (Nat.le_refl _) _
          have hB6 : Blk w6 w5.heap.size 40 #[.int .u8 3, .string ⟨#[]⟩, .int .i64 ((k : Int) - 100), .slice none 0 0] := by rw [← hw6]; exact Blk.new _ _ _
          have hO6 := hO5.below hb6
          have hwb := HB.out.1.trans (hb6.mono HB.out.1.size)
          obtain ⟨v', w7, hrun, hO7, hgr⟩ := hO6.app hwb.size [numE k] ⟨w5.heap.size, 0, none⟩ 1 1 rfl (one_cells hB6 (numE_cells k)) (fun e he => by rw [List.mem_singleton.1 he]; exact numE_in (by omega)) (by rw [numsE_len]; omega)
          obtain ⟨A7, c7, rfl, hP7⟩ := hO7.shape
          have hln : (numsE i ++ [numE k]).length = i + 1 := by rw [List.length_append, numsE_len]; rfl
          rw [hln] at hrun hO7 hP7
          obtain ⟨g7, rfl⟩ := hO7.form (by omega)
          have hb7 : Below w.heap.size w w7 := hwb.trans (hO6.bel hgr (Nat.le_refl _) hwb.size)
          have HC3 := Lib.hid (checkN ((numsE i ++ [numE k]).map Te.t) _ (i + 1) c7 false 4 14 w7 (hP7.mono fun _ _ => trivial) (many_c hi2 hki) rfl)
          have HO7 := Lib.hid (And.intro hO7 hb7)
          have HR := Lib.hid hrun
          have HW := Lib.hid hw6
          have hi1 : ((i : Int) == 0) = false := hz
          clear hb6 hB6 hO5 hO6 hwb hrun hO7 hP7 hgr hw6 hln hb7 HP
          obtain ⟨m, hm⟩ : ∃ m, i + 1 = m := ⟨_, rfl⟩
          have hmi : (i : Int) + 1 = (m : Int) := by omega
          have HMI := Lib.hid hm
          rw [hm] at HC3 HR HO7
          clear hm
          have hk0 : (0 : Int) ≤ (k : Int) := by omega
          go_upto_region 14 with fail
          have hw6 := HW.out
          have hrun := HR.out
          go_wp2_with (at_builtin; refine wpList_app rfl _ _ 22 rfl _ _ _ _ rfl rfl hrun ?_)
          refine HC3.out.mono ?_
          rintro e w8 ⟨rfl, hb8⟩
          have HO8 := Lib.hid (And.intro (HO7.out.1.below hb8) (HO7.out.2.trans (hb8.mono HO7.out.2.size)))
          clear hb8 HC3 z0 z1 z2 z3 hw6 hrun HO7
          go_wp2_with fail
          refine (wild_any w8).mono ?_
          rintro e w9 ⟨rfl, hb9⟩
          have hO9 := HO8.out.1.below hb9
          have hb89 := HO8.out.2.trans (hb9.mono HO8.out.2.size)
          obtain ⟨hcl, hfz, hBg, hO10⟩ := hO9.put (i := i) (by rw [List.length_append, numsE_len]; simp) (tE any) (v0 := .int .u8 1) (v1 := .string ⟨#[]⟩) (v2 := .int .i64 0) (v3 := .slice none 0 0) rfl (tE_in rfl ok_any)
          obtain ⟨p0, x0⟩ := hcl 0 (by omega)
          obtain ⟨p1, x1⟩ := hcl 1 (by omega)
          obtain ⟨p2, x2⟩ := hcl 2 (by omega)
          obtain ⟨p3, x3⟩ := hcl 3 (by omega)
          rw [Nat.add_zero] at x0
          have hset : (numsE i ++ [numE k]).set i (tE any) = numsE i ++ [tE any] := by
            rw [List.set_append_right _ _ (by rw [numsE_len]; exact Nat.le_refl _), numsE_len, Nat.sub_self]; rfl
          rw [hset] at hO10
          have hb10 := hb89.trans ((offR w9 g7 i (.int .u8 1) (.string ⟨#[]⟩) (.int .i64 0) (.slice none 0 0)).below (B := w.heap.size) hb89.size (fun b e => by omega))
          obtain ⟨w10, hw10⟩ : ∃ w10, ((((w9.setCell ⟨g7, i * 4, none⟩ (.int .u8 1)).setCell ⟨g7, i * 4 + 1, none⟩ (.string ⟨#[]⟩)).setCell ⟨g7, i * 4 + 2, none⟩ (.int .i64 0)).setCell ⟨g7, i * 4 + 3, none⟩ (.slice none 0 0)) = w10 := ⟨_, rfl⟩
          rw [hw10] at hO10 hb10
          obtain ⟨A11, c11, e11, hP11⟩ := hO10.shape
          have hln2 : (numsE i ++ [tE any]).length = m := by rw [List.length_append, numsE_len]; exact HMI.out
          rw [hln2] at e11 hP11
          injection e11 with e12 e13 e14
          rw [← e12, ← e14] at hP11
          have HC5 := Lib.hid (checkN ((numsE i ++ [tE any]).map Te.t) _ m c7 true 0 0 w10 (hP11.mono fun _ _ => trivial) (many_d hi2) rfl)
          have HB10 := Lib.hid hb10
          have HW10 := Lib.hid hw10
          have him : i < m := by omega
          have hdm : decide ((i : Int) < (m : Int)) = true := by simp; omega
          clear hcl hBg hO9 hb89 hO10 hset hb10 hln2 e12 e13 e14 hP11 hb9 hw10
          go_upto_region 18 with fail
          rw [HW10.out]
          clear x0 x1 x2 x3 hfz
          go_wp2_with fail
          refine HC5.out.mono ?_
          rintro e w11 ⟨rfl, hb11⟩
          go_wp2_with fail
          refine (works_any w11).mono ?_
          rintro e w12 ⟨rfl, hb12⟩
          have HB12 := Lib.hid (HB10.out.trans ((hb11.trans (hb12.mono hb11.size)).mono HB10.out.size))
          clear hb11 hb12
          go_wp2_with fail
          go_ret
          exact ⟨rfl, HB12.out⟩
end Go.Proofs.Ytigaondgopahgaa
