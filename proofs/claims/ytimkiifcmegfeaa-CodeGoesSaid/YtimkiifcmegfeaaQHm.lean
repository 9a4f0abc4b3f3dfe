/- Contracts. -/
import Derived.Test.YtimkiifcmegfeaaBA
/- code: code that goes straight on, apart from memory; numbers put into a tuple, things taken off. -/
namespace Go.Proofs.Ytimkiifcmegfeaa
open Go.RowKit
set_option linter.unusedVariables false
set_option linter.unusedSimpArgs false
namespace Wk
/-- A walk that stands at one place, and has come to none behind it. -/
structure St (n : Nat) (W : Wk) (p : Nat) (h : Int) : Prop where
  len : W.at_.length = n
  here : W.at_[p]? = some (some (h, 0))
  free : ∀ q, p < q → q < n → W.at_[q]? = some none
  work : W.work = [p]
/-- Code that goes straight on. -/
def sgo (f0 : Bool) (g : Int × Int) : List Ins → Int → Bool
  | [], _ => false
  | i :: is, h => if i.op = 8 then (decide (f0 = false) && decide (h = 2)) else if i.op = 25 then f0 else
    match eff f0 g (h, 0) i with
    | none => false
    | some e => decide ((if f0 then 0 else 1) ≤ h - e.1) && sgo f0 g is (h - e.1 + e.2)
def straight (i : Ins) : Prop := i.op ≠ 17 ∧ i.op ≠ 9 ∧ i.op ≠ 10 ∧ i.op ≠ 18 ∧ i.op ≠ 19 ∧ i.op ≠ 23
theorem step_straight (W : Wk) (f0 : Bool) (g : Int × Int) (p : Nat) (s : Int × Nat) (i : Ins) (hi : straight i) (h8 : i.op ≠ 8) (h25 : i.op ≠ 25) : W.step f0 g p s i = (eff f0 g s i).bind fun e => W.on f0 p s e.1 e.2 := by
  obtain ⟨h1, h2, h3, h4, h5, h6⟩ := hi
  unfold step
  rw [if_neg h8, if_neg h25, if_neg h1, if_neg h2, if_neg h3, if_neg h4, if_neg h5, if_neg h6]
theorem loop_nil (f0 : Bool) (g : Int × Int) (is : List Ins) (k : Nat) (W : Wk) (h : W.work = []) : loop f0 g is (k + 1) W = true := by
  rw [loop, h]; rfl
theorem loop_sgo (f0 : Bool) (g : Int × Int) (is : List Ins) : ∀ (suf : List Ins) (p fuel : Nat) (W : Wk) (h : Int), is.drop p = suf → suf.length + 2 ≤ fuel → St is.length W p h → (∀ i ∈ suf, straight i) → loop f0 g is fuel W = sgo f0 g suf h
  | [], p, fuel, W, h, hd, hf, hS, hs => by
    have h1 := (List.getElem?_eq_some_iff.1 hS.here).1
    rw [hS.len] at h1
    have h2 := congrArg List.length hd
    rw [List.length_drop] at h2
    simp at h2
    omega
  | i :: suf, p, fuel, W, h, hd, hf, hS, hs => by
    obtain ⟨k, rfl⟩ : ∃ k, fuel = k + 1 + 1 := ⟨fuel - 2, by simp at hf; omega⟩
    have hlt : p < is.length := by
      have h1 := (List.getElem?_eq_some_iff.1 hS.here).1
      rw [hS.len] at h1
      exact h1
    have hi : is[p]? = some i := by
      have := List.getElem?_drop (xs := is) (i := p) (j := 0)
      rw [hd] at this
      simpa using this.symm
    have hd2 : is.drop (p + 1) = suf := by rw [← List.drop_drop, hd]; rfl
    have ha1 : W.at1 p = (h, 0) := by unfold at1; rw [hS.here]
    have hsi := hs i List.mem_cons_self
    rw [loop, hS.work]
    show (match ({ W with work := [] } : Wk).step f0 g p (W.at1 p) (is[p]?.getD default) with | none => false | some V => loop f0 g is (k + 1) V) = _
    rw [ha1, hi, sgo]
    show (match ({ W with work := [] } : Wk).step f0 g p (h, 0) i with | none => false | some V => loop f0 g is (k + 1) V) = _
    by_cases h8 : i.op = 8
    · rw [if_pos h8]
      unfold step
      rw [if_pos h8]
      show (match (if f0 = false ∧ h = 2 ∧ (0 : Nat) = 0 then some ({ W with work := [] } : Wk) else none) with | none => false | some V => loop f0 g is (k + 1) V) = _
      by_cases hc : f0 = false ∧ h = 2
      · rw [if_pos ⟨hc.1, hc.2, rfl⟩, hc.1, hc.2]
        exact loop_nil _ _ _ _ _ rfl
      · rw [if_neg fun e => hc ⟨e.1, e.2.1⟩]
        symm
        simp only [Bool.and_eq_false_iff, decide_eq_false_iff_not]
        by_cases h0 : f0 = false
        · exact .inr fun e => hc ⟨h0, e⟩
        · exact .inl h0
    · rw [if_neg h8]
      by_cases h25 : i.op = 25
      · rw [if_pos h25]
        unfold step
        rw [if_neg h8, if_pos h25]
        show (match (if f0 = true ∧ (0 : Nat) = 0 then some ({ W with work := [] } : Wk) else none) with | none => false | some V => loop f0 g is (k + 1) V) = _
        cases f0
        · rw [if_neg (by simp)]
        · rw [if_pos ⟨rfl, rfl⟩]
          exact loop_nil _ _ _ _ _ rfl
      · rw [if_neg h25, step_straight _ _ _ _ _ _ hsi h8 h25]
        cases he : eff f0 g (h, 0) i with
        | none => rfl
        | some e =>
          show (match ({ W with work := [] } : Wk).on f0 p (h, 0) e.1 e.2 with | none => false | some V => loop f0 g is (k + 1) V) = (decide ((if f0 then 0 else 1) ≤ h - e.1) && sgo f0 g suf (h - e.1 + e.2))
          unfold on take floor
          rw [if_neg (show ¬ 0 < ((h, 0) : Int × Nat).2 from Nat.lt_irrefl 0)]
          by_cases hc : (if f0 = true then (0 : Int) else 1) ≤ h - e.1
          · rw [if_pos hc, decide_eq_true hc, Bool.true_and]
            show (match ({ W with work := [] } : Wk).come (p + 1) (h - e.1 + e.2) 0 with | none => false | some V => loop f0 g is (k + 1) V) = _
            unfold come
            by_cases hp : p + 1 < is.length
            · have hfr := hS.free (p + 1) (by omega) hp
              show (match (match W.at_[p + 1]? with | none => none | some none => _ | some (some s) => _ : Option Wk) with | none => false | some V => loop f0 g is (k + 1) V) = _
              rw [hfr]
              refine loop_sgo f0 g is suf (p + 1) (k + 1) _ (h - e.1 + e.2) hd2 (by simp at hf; omega) ⟨?_, ?_, ?_, rfl⟩ fun j hj => hs j (List.mem_cons_of_mem _ hj)
              · show (W.at_.set _ _).length = _
                rw [List.length_set, hS.len]
              · show (W.at_.set _ _)[p + 1]? = _
                rw [List.getElem?_set_self (by rw [hS.len]; exact hp)]
              · intro q h1 h2
                show (W.at_.set _ _)[q]? = _
                rw [List.getElem?_set_ne (by omega)]
                exact hS.free q (by omega) h2
            · have hfr : W.at_[p + 1]? = none := List.getElem?_eq_none (by rw [hS.len]; omega)
              show (match (match W.at_[p + 1]? with | none => none | some none => _ | some (some s) => _ : Option Wk) with | none => false | some V => loop f0 g is (k + 1) V) = _
              rw [hfr]
              have : suf = [] := by rw [← hd2]; exact List.drop_eq_nil_of_le (by omega)
              rw [this]; rfl
          · rw [if_neg hc, decide_eq_false hc]; rfl
theorem all_sgo (f0 : Bool) (g : Int × Int) (is : List Ins) (h0 : is ≠ []) (hs : ∀ i ∈ is, straight i) : all f0 g is = sgo f0 g is (if f0 then 0 else 1) := by
  have hl : 0 < is.length := List.length_pos_iff.2 h0
  have hr : (List.replicate is.length (none : Option (Int × Nat)))[0]? = some none := by rw [List.getElem?_replicate, if_pos hl]
  unfold all start come
  simp only [hr]
  refine loop_sgo f0 g is is 0 _ _ _ rfl (Nat.le_refl _) ⟨?_, ?_, ?_, rfl⟩ hs
  · simp
  · show (List.set _ 0 _)[0]? = _
    rw [List.getElem?_set_self (by simp; exact hl)]
  · intro q h1 h2
    show (List.set _ 0 _)[q]? = _
    rw [List.getElem?_set_ne (by omega), List.getElem?_replicate, if_pos h2]
end Wk
/-- Numbers, and so many that are put into a tuple. -/
def intsL : Nat → Nat → List Ins
  | 0, _ => []
  | n + 1, k => ⟨1, (k : Int), 0, 0, []⟩ :: intsL n (k + 1)
def locsL : Nat → Nat → List Ins
  | 0, _ => []
  | n + 1, k => ⟨3, (k : Int), 0, 0, []⟩ :: locsL n (k + 1)
def popsL (n : Nat) : List Ins := List.replicate n ⟨21, 0, 0, 0, []⟩
theorem intsL_snoc : ∀ (n k : Nat), intsL (n + 1) k = intsL n k ++ [⟨1, ((k + n : Nat) : Int), 0, 0, []⟩]
  | 0, k => rfl
  | n + 1, k => by rw [intsL, intsL_snoc n (k + 1), intsL, List.cons_append, show k + 1 + n = k + (n + 1) by omega]
theorem locsL_snoc : ∀ (n k : Nat), locsL (n + 1) k = locsL n k ++ [⟨3, ((k + n : Nat) : Int), 0, 0, []⟩]
  | 0, k => rfl
  | n + 1, k => by rw [locsL, locsL_snoc n (k + 1), locsL, List.cons_append, show k + 1 + n = k + (n + 1) by omega]
theorem intsL_len : ∀ (n k : Nat), (intsL n k).length = n
  | 0, k => rfl
  | n + 1, k => by rw [intsL, List.length_cons, intsL_len]
theorem locsL_len : ∀ (n k : Nat), (locsL n k).length = n
  | 0, k => rfl
  | n + 1, k => by rw [locsL, List.length_cons, locsL_len]
theorem intsL_mem : ∀ (n k : Nat) (i : Ins), i ∈ intsL n k → ∃ j, j < k + n ∧ i = ⟨1, (j : Int), 0, 0, []⟩
  | 0, k, i, h => by simp [intsL] at h
  | n + 1, k, i, h => by
    rw [intsL, List.mem_cons] at h
    rcases h with h | h
    · exact ⟨k, by omega, h⟩
    · obtain ⟨j, hj, e⟩ := intsL_mem n (k + 1) i h
      exact ⟨j, by omega, e⟩
theorem locsL_mem : ∀ (n k : Nat) (i : Ins), i ∈ locsL n k → ∃ j, j < k + n ∧ i = ⟨3, (j : Int), 0, 0, []⟩
  | 0, k, i, h => by simp [locsL] at h
  | n + 1, k, i, h => by
    rw [locsL, List.mem_cons] at h
    rcases h with h | h
    · exact ⟨k, by omega, h⟩
    · obtain ⟨j, hj, e⟩ := locsL_mem n (k + 1) i h
      exact ⟨j, by omega, e⟩
theorem sgo_ints (g : Int × Int) (rest : List Ins) : ∀ (n k : Nat) (h : Int), 0 ≤ h → Wk.sgo true g (intsL n k ++ rest) h = Wk.sgo true g rest (h + n)
  | 0, k, h, _ => by simp [intsL]
  | n + 1, k, h, h0 => by
    rw [intsL, List.cons_append, Wk.sgo, if_neg (by show (1 : Nat) ≠ 8; decide), if_neg (by show (1 : Nat) ≠ 25; decide)]
    show (decide ((0 : Int) ≤ h - 0) && Wk.sgo true g (intsL n (k + 1) ++ rest) (h - 0 + 1)) = _
    rw [decide_eq_true (by omega), Bool.true_and, sgo_ints g rest n (k + 1) _ (by omega)]
    congr 1
    omega
theorem sgo_locs (g : Int × Int) (rest : List Ins) : ∀ (n k : Nat) (h : Int), (k : Int) + 1 ≤ h → Wk.sgo false g (locsL n k ++ rest) h = Wk.sgo false g rest (h + n)
  | 0, k, h, _ => by simp [locsL]
  | n + 1, k, h, h0 => by
    rw [locsL, List.cons_append, Wk.sgo, if_neg (by show (3 : Nat) ≠ 8; decide), if_neg (by show (3 : Nat) ≠ 25; decide)]
    have he : Wk.eff false g (h, 0) ⟨3, (k : Int), 0, 0, []⟩ = some (0, 1) := by
      unfold Wk.eff
      rw [if_pos rfl, if_pos (by show (k : Int) < h; omega)]
    rw [he]
    show (decide ((1 : Int) ≤ h - 0) && Wk.sgo false g (locsL n (k + 1) ++ rest) (h - 0 + 1)) = _
    rw [decide_eq_true (by omega), Bool.true_and, sgo_locs g rest n (k + 1) _ (by omega)]
    congr 1
    omega
theorem sgo_pops (g : Int × Int) : ∀ (n : Nat) (h : Int), Wk.sgo false g (popsL n ++ [⟨8, 0, 0, 0, []⟩]) h = decide (h - n = 2)
  | 0, h => by
    show (decide (false = false) && decide (h = 2)) = _
    simp
  | n + 1, h => by
    unfold popsL
    rw [List.replicate_succ, List.cons_append, Wk.sgo, if_neg (by show (21 : Nat) ≠ 8; decide), if_neg (by show (21 : Nat) ≠ 25; decide)]
    show (decide ((1 : Int) ≤ h - 1) && Wk.sgo false g (popsL n ++ [⟨8, 0, 0, 0, []⟩]) (h - 1 + 0)) = _
    rw [sgo_pops g n]
    by_cases hc : (1 : Int) ≤ h - 1
    · rw [decide_eq_true hc, Bool.true_and]
      congr 1
      exact propext ⟨fun _ => by omega, fun _ => by omega⟩
    · rw [decide_eq_false hc, Bool.false_and]
      symm
      exact decide_eq_false (by omega)
def heiA (a : Nat) (t : Int) : List Ins := intsL a 0 ++ [⟨11, t, 0, 0, []⟩, ⟨25, 0, 0, 0, []⟩]
def heiB (a p : Nat) : List Ins := locsL a 0 ++ (popsL p ++ [⟨8, 0, 0, 0, []⟩])
def heiF : List Ins := [⟨6, 1, 1, 0, []⟩, ⟨25, 0, 0, 0, []⟩]
theorem made_no : ∀ (l : List Ins) (gs : List (Int × Int)), (∀ i ∈ l, i.op ≠ 6) → madeL l gs = some gs
  | [], gs, _ => rfl
  | i :: l, gs, h => by
    rw [madeL, if_neg (h i List.mem_cons_self), made_no l gs fun j hj => h j (List.mem_cons_of_mem _ hj)]
theorem heiA_op (a : Nat) (t : Int) : ∀ i ∈ heiA a t, i.op = 1 ∨ i.op = 11 ∨ i.op = 25 := by
  intro i hi
  unfold heiA at hi
  rw [List.mem_append] at hi
  rcases hi with hi | hi
  · obtain ⟨j, _, rfl⟩ := intsL_mem a 0 i hi; exact .inl rfl
  · simp only [List.mem_cons, List.not_mem_nil, or_false] at hi
    rcases hi with rfl | rfl
    · exact .inr (.inl rfl)
    · exact .inr (.inr rfl)
theorem heiB_op (a p : Nat) : ∀ i ∈ heiB a p, i.op = 3 ∨ i.op = 21 ∨ i.op = 8 := by
  intro i hi
  unfold heiB at hi
  rw [List.mem_append, List.mem_append] at hi
  rcases hi with hi | hi | hi
  · obtain ⟨j, _, rfl⟩ := locsL_mem a 0 i hi; exact .inl rfl
  · rw [(List.mem_replicate.1 hi).2]; exact .inr (.inl rfl)
  · rw [List.mem_singleton.1 hi]; exact .inr (.inr rfl)
theorem heiA_opnd (a : Nat) (t : Int) (ha : a < 60) (ht : t < 60) (m k n : Int) : ((heiA a t).all fun i => opnd m k n i) = decide (2 ≤ t) := by
  unfold heiA
  rw [List.all_append]
  have h1 : ((intsL a 0).all fun i => opnd m k n i) = true := by
    rw [List.all_eq_true]
    intro i hi
    obtain ⟨j, hj, rfl⟩ := intsL_mem a 0 i hi
    have e1 : decide (((-4611686018427387904 : Int)) ≤ (j : Int)) = true := decide_eq_true (by omega)
    have e2 : decide ((j : Int) ≤ 4611686018427387903) = true := decide_eq_true (by omega)
    simp [opnd, wi]
    omega
  rw [h1, Bool.true_and]
  have e3 : (decide (t ≤ 65535)) = true := decide_eq_true (by omega)
  simp [opnd, wi]
  omega
theorem heiB_opnd (a p : Nat) (ha : a < 60) (m k n : Int) : ((heiB a p).all fun i => opnd m k n i) = true := by
  rw [List.all_eq_true]
  intro i hi
  unfold heiB at hi
  rw [List.mem_append, List.mem_append] at hi
  rcases hi with hi | hi | hi
  · obtain ⟨j, hj, rfl⟩ := locsL_mem a 0 i hi
    simp [opnd, wi]
    omega
  · rw [(List.mem_replicate.1 hi).2]; simp [opnd]
  · rw [List.mem_singleton.1 hi]; simp [opnd]
theorem checkA (a : Nat) (t : Int) (ha : a < 60) (ht : t < 60) : checkB ⟨[heiA a t], []⟩ = (decide (2 ≤ t) && decide (t ≤ a)) := by
  have h1 : opnds 1 0 [heiA a t] = decide (2 ≤ t) := by
    unfold opnds
    rw [List.all_cons, heiA_opnd a t ha ht, List.all_nil, Bool.and_true]
  have h2 : madeFs [heiA a t] [((0 : Int), (0 : Int))] = some [(0, 0)] := by
    rw [madeFs, made_no _ _ fun i hi => by have := heiA_op a t i hi; omega]; rfl
  have h3 : Wk.all true (0, 0) (heiA a t) = decide (t ≤ a) := by
    rw [Wk.all_sgo true (0, 0) (heiA a t) (by unfold heiA; simp) fun i hi => by have := heiA_op a t i hi; unfold Wk.straight; omega]
    unfold heiA
    rw [sgo_ints (0, 0) _ a 0 _ (by simp), Wk.sgo, if_neg (by show (11 : Nat) ≠ 8; decide), if_neg (by show (11 : Nat) ≠ 25; decide)]
    show (decide ((0 : Int) ≤ 0 + (a : Int) - t) && true) = _
    rw [Bool.and_true]
    congr 1
    exact propext ⟨fun _ => by omega, fun _ => by omega⟩
  show (true && (rootsOK [] && (opnds 1 0 [heiA a t] && match madeFs [heiA a t] [((0 : Int), (0 : Int))] with | none => false | some gs => madeOK gs && allFs gs [heiA a t] 0))) = _
  rw [h1, h2]
  show (true && (true && (decide (2 ≤ t) && (true && (Wk.all true (0, 0) (heiA a t) && true))))) = _
  rw [h3]
  simp
theorem checkH (a p : Nat) (ha : a < 60) : checkB ⟨[heiF, heiB a p], []⟩ = decide ((a : Int) - p = 1) := by
  have h1 : opnds 2 0 [heiF, heiB a p] = true := by
    unfold opnds
    rw [List.all_cons, List.all_cons, heiB_opnd a p ha, List.all_nil, Bool.and_true, Bool.and_true]
    decide
  have h2 : madeFs [heiF, heiB a p] [((0 : Int), (0 : Int)), (0, 0)] = some [(0, 0), (0, 1)] := by
    have e : madeL heiF [((0 : Int), (0 : Int)), (0, 0)] = some [(0, 0), (0, 1)] := by decide
    rw [madeFs, e]
    show (madeL (heiB a p) _).bind _ = _
    rw [made_no _ _ fun i hi => by have := heiB_op a p i hi; omega]; rfl
  have h3 : Wk.all false (0, 1) (heiB a p) = decide ((a : Int) - p = 1) := by
    rw [Wk.all_sgo false (0, 1) (heiB a p) (by unfold heiB; simp) fun i hi => by have := heiB_op a p i hi; unfold Wk.straight; omega]
    unfold heiB
    rw [sgo_locs (0, 1) _ a 0 _ (by simp), sgo_pops]
    congr 1
    exact propext ⟨fun h => by simp at h; omega, fun h => by simp; omega⟩
  show (true && (rootsOK [] && (opnds 2 0 [heiF, heiB a p] && match madeFs [heiF, heiB a p] [((0 : Int), (0 : Int)), (0, 0)] with | none => false | some gs => madeOK gs && allFs gs [heiF, heiB a p] 0))) = _
  rw [h1, h2]
  show (true && (true && (true && (true && (Wk.all true (0, 0) heiF && (Wk.all false (0, 1) (heiB a p) && true)))))) = _
  rw [h3, show Wk.all true (0, 0) heiF = true by decide]
  simp
end Go.Proofs.Ytimkiifcmegfeaa
