/- Contracts, part BQ. -/
import Derived.Test.YtimkiifcmegfeaaQGf
import Derived.Test.YtimkiifcmegfeaaBD
import Derived.Test.YtimkiifcmegfeaaQGh
import Derived.Test.YtimkiifcmegfeaaBF
import Derived.Test.YtimkiifcmegfeaaQGp
import Derived.Test.YtimkiifcmegfeaaBR
import Derived.Test.YtimkiifcmegfeaaBH
import Derived.Test.YtimkiifcmegfeaaQLg
/- code: the law's machine: next, whatever the instruction (written by cdnext.py). -/
namespace Go.Proofs.Ytimkiifcmegfeaa
open Go.RowKit
set_option linter.unusedVariables false
set_option linter.unusedSimpArgs false
attribute [local go_sem] Oper.semAt_some
/-- One step. -/
theorem next_any (c : Mc) (s : Ms) (w wx : World) (V : Wk) (is : List Ins) (gg : Int × Int) (h : MM c s w wx) (hb : Mb c s) (hst : s.st ≤ 400) (hG : Good c V is gg) (hI : Inv V is s) : Calls Try.prog 24 #[.pointer (some ⟨c.g, 0, none⟩)] wx fun e w' => e = .returned (.tuple #[]) ∧ NextP c V is s w w' := by
  obtain ⟨i, hi⟩ : ∃ i, is[s.a]? = some i := ⟨_, List.getElem?_eq_getElem (hI.at_lt hG).1⟩
  have ho := hG.bounds hi
  have h25 : 1 ≤ i.op ∧ i.op ≤ 25 := by
    refine Classical.byContradiction fun hn => ?_
    simp [opnd, show i.op ≠ 1 by omega, show i.op ≠ 2 by omega, show i.op ≠ 3 by omega, show i.op ≠ 4 by omega, show i.op ≠ 5 by omega, show i.op ≠ 6 by omega, show i.op ≠ 7 by omega, show i.op ≠ 8 by omega, show i.op ≠ 9 by omega, show i.op ≠ 10 by omega, show i.op ≠ 11 by omega, show i.op ≠ 12 by omega, show i.op ≠ 13 by omega, show i.op ≠ 14 by omega, show i.op ≠ 15 by omega, show i.op ≠ 16 by omega, show i.op ≠ 17 by omega, show i.op ≠ 18 by omega, show i.op ≠ 19 by omega, show i.op ≠ 20 by omega, show i.op ≠ 21 by omega, show i.op ≠ 22 by omega, show i.op ≠ 23 by omega, show i.op ≠ 24 by omega, show i.op ≠ 25 by omega] at ho
  rcases (show i.op = 1 ∨ i.op = 2 ∨ i.op = 3 ∨ i.op = 4 ∨ i.op = 5 ∨ i.op = 6 ∨ i.op = 7 ∨ i.op = 8 ∨ i.op = 9 ∨ i.op = 10 ∨ i.op = 11 ∨ i.op = 12 ∨ i.op = 13 ∨ i.op = 14 ∨ i.op = 15 ∨ i.op = 16 ∨ i.op = 17 ∨ i.op = 18 ∨ i.op = 19 ∨ i.op = 20 ∨ i.op = 21 ∨ i.op = 22 ∨ i.op = 23 ∨ i.op = 24 ∨ i.op = 25 by omega) with e | e | e | e | e | e | e | e | e | e | e | e | e | e | e | e | e | e | e | e | e | e | e | e | e
  · exact next_1 c s w wx V is gg h hb hst hG i hi e hI
  · exact next_2 c s w wx V is gg h hb hst hG i hi e hI
  · exact next_3 c s w wx V is gg h hb hst hG i hi e hI
  · exact next_4 c s w wx V is gg h hb hst hG i hi e hI
  · exact next_5 c s w wx V is gg h hb hst hG i hi e hI
  · exact next_6 c s w wx V is gg h hb hst hG i hi e hI
  · exact next_7 c s w wx V is gg h hb hst hG i hi e hI
  · exact next_8 c s w wx V is gg h hb hst hG i hi e hI
  · exact next_9 c s w wx V is gg h hb hst hG i hi e hI
  · exact next_10 c s w wx V is gg h hb hst hG i hi e hI
  · exact next_11 c s w wx V is gg h hb hst hG i hi e hI
  · exact next_12 c s w wx V is gg h hb hst hG i hi e hI
  · exact next_13 c s w wx V is gg h hb hst hG i hi e hI
  · exact next_14 c s w wx V is gg h hb hst hG i hi e hI
  · exact next_15 c s w wx V is gg h hb hst hG i hi e hI
  · exact next_16 c s w wx V is gg h hb hst hG i hi e hI
  · exact next_17 c s w wx V is gg h hb hst hG i hi e hI
  · exact next_18 c s w wx V is gg h hb hst hG i hi e hI
  · exact next_19 c s w wx V is gg h hb hst hG i hi e hI
  · exact next_20 c s w wx V is gg h hb hst hG i hi e hI
  · exact next_21 c s w wx V is gg h hb hst hG i hi e hI
  · exact next_22 c s w wx V is gg h hb hst hG i hi e hI
  · exact next_23 c s w wx V is gg h hb hst hG i hi e hI
  · exact next_24 c s w wx V is gg h hb hst hG i hi e hI
  · exact next_25 c s w wx V is gg h hb hst hG i hi e hI
end Go.Proofs.Ytimkiifcmegfeaa
/- code: what Check says of a code, for the law's machine. -/
namespace Go.Proofs.Ytimkiifcmegfeaa
open Go.RowKit
set_option linter.unusedVariables false
set_option linter.unusedSimpArgs false
/-- What is marked of a function. -/
def mk (g : List (Int × Int)) (f : Nat) : Int × Int := g[f]?.getD (0, 0)
theorem mk_set {g : List (Int × Int)} {n f : Nat} {x : Int × Int} (hn : n < g.length) : mk (g.set n x) f = if n = f then x else mk g f := by
  unfold mk
  by_cases e : n = f
  · subst e
    rw [List.getElem?_set_self hn, if_pos rfl]; rfl
  · rw [List.getElem?_set_ne e, if_neg e]
theorem markN_mk (c b : Int) : ∀ (j n : Nat) (g g' : List (Int × Int)) (f : Nat), markN c b j n g = some g' → n + j ≤ g.length → g'.length = g.length ∧ mk g' f = (if n ≤ f ∧ f < n + j then (c, b) else mk g f) ∧ (n ≤ f ∧ f < n + j → (mk g f).2 = 0)
  | 0, n, g, g', f, h, hl => by
    rw [markN] at h
    injection h with h
    subst h
    exact ⟨rfl, by rw [if_neg (by omega)], fun e => by omega⟩
  | j + 1, n, g, g', f, h, hl => by
    rw [markN] at h
    split at h
    · rename_i h0
      obtain ⟨k1, k2, k3⟩ := markN_mk c b j (n + 1) _ g' f h (by rw [List.length_set]; omega)
      rw [List.length_set] at k1
      refine ⟨k1, ?_, fun e => ?_⟩
      · rw [k2, mk_set (by omega)]
        by_cases e : n = f
        · rw [if_neg (by omega), if_pos e, if_pos (by omega)]
        · rw [if_neg e]
          by_cases e2 : n + 1 ≤ f ∧ f < n + 1 + j
          · rw [if_pos e2, if_pos (by omega)]
          · rw [if_neg e2, if_neg (by omega)]
      · by_cases e2 : n = f
        · subst e2; exact h0
        · have := k3 (by omega)
          rw [mk_set (by omega), if_neg e2] at this
          exact this
    · cases h
/-- What is marked, is who makes it. -/
def MkIs (L : List Ins) (g : List (Int × Int)) (f : Nat) : Prop := (∀ x ∈ L, covers f x → mk g f = (x.c, x.b)) ∧ ((∀ x ∈ L, ¬ covers f x) → mk g f = (0, 0))
theorem madeL_mk (f : Nat) : ∀ (l L : List Ins) (g g' : List (Int × Int)), madeL l g = some g' → (∀ i ∈ l, i.op = 6 → 1 ≤ i.a ∧ 1 ≤ i.b ∧ i.a + i.b ≤ (g.length : Int)) → MkIs L g f → g'.length = g.length ∧ MkIs (L ++ l) g' f
  | [], L, g, g', h, hb, hm => by
    rw [madeL] at h
    injection h with h
    subst h
    exact ⟨rfl, by rw [List.append_nil]; exact hm⟩
  | i :: l, L, g, g', h, hb, hm => by
    rw [madeL] at h
    rw [show L ++ i :: l = (L ++ [i]) ++ l by simp]
    split at h
    · rename_i h6
      obtain ⟨g1, h1, h2⟩ := Wk.bind_some' h
      have hbi := hb i (List.mem_cons_self ..) h6
      obtain ⟨k1, k2, k3⟩ := markN_mk i.c i.b _ _ g g1 f h1 (by omega)
      have hcov : (i.a.toNat ≤ f ∧ f < i.a.toNat + i.b.toNat) ↔ covers f i := ⟨fun e => ⟨h6, by omega, by omega⟩, fun e => by have := e.2.1; have := e.2.2; omega⟩
      have hm1 : MkIs (L ++ [i]) g1 f := by
        refine ⟨fun x hx hc => ?_, fun hn => ?_⟩
        · rw [k2]
          by_cases ci : covers f i
          · rw [if_pos (hcov.2 ci)]
            rcases List.mem_append.1 hx with hx | hx
            · have e1 := hm.1 x hx hc
              have e2 := k3 (hcov.2 ci)
              rw [e1] at e2
              have := hc.2.1
              have := hc.2.2
              have e2 : x.b = 0 := e2
              omega
            · rw [List.mem_singleton.1 hx]
          · rw [if_neg (fun e => ci (hcov.1 e))]
            rcases List.mem_append.1 hx with hx | hx
            · exact hm.1 x hx hc
            · rw [List.mem_singleton.1 hx] at hc; exact absurd hc ci
        · rw [k2, if_neg (fun e => hn i (by simp) (hcov.1 e))]
          exact hm.2 fun x hx => hn x (List.mem_append.2 (.inl hx))
      obtain ⟨k4, k5⟩ := madeL_mk f l (L ++ [i]) g1 g' h2 (fun x hx h7 => by rw [k1]; exact hb x (List.mem_cons_of_mem _ hx) h7) hm1
      exact ⟨k4.trans k1, k5⟩
    · rename_i h6
      refine madeL_mk f l (L ++ [i]) g g' h (fun x hx h7 => hb x (List.mem_cons_of_mem _ hx) h7) ⟨fun x hx hc => ?_, fun hn => hm.2 fun x hx => hn x (List.mem_append.2 (.inl hx))⟩
      rcases List.mem_append.1 hx with hx | hx
      · exact hm.1 x hx hc
      · rw [List.mem_singleton.1 hx] at hc; exact absurd hc.1 h6
theorem madeFs_mk (f : Nat) : ∀ (fs : List (List Ins)) (L : List Ins) (g g' : List (Int × Int)), madeFs fs g = some g' → (∀ l ∈ fs, ∀ i ∈ l, i.op = 6 → 1 ≤ i.a ∧ 1 ≤ i.b ∧ i.a + i.b ≤ (g.length : Int)) → MkIs L g f → MkIs (L ++ fs.flatten) g' f
  | [], L, g, g', h, hb, hm => by
    rw [madeFs] at h
    injection h with h
    subst h
    simpa using hm
  | l :: fs, L, g, g', h, hb, hm => by
    rw [madeFs] at h
    obtain ⟨g1, h1, h2⟩ := Wk.bind_some' h
    obtain ⟨k1, k2⟩ := madeL_mk f l L g g1 h1 (hb l (List.mem_cons_self ..)) hm
    rw [List.flatten_cons, ← List.append_assoc]
    exact madeFs_mk f fs (L ++ l) g1 g' h2 (fun x hx => by rw [k1]; exact hb x (List.mem_cons_of_mem _ hx)) k2
theorem allFs_get (gs : List (Int × Int)) : ∀ (fs : List (List Ins)) (n j : Nat) (l : List Ins), allFs gs fs n = true → fs[j]? = some l → Wk.all (decide (n + j = 0)) (mk gs (n + j)) l = true
  | [], n, j, l, h, hj => by simp at hj
  | f :: fs, n, 0, l, h, hj => by
    rw [allFs, Bool.and_eq_true] at h
    obtain rfl : f = l := by simpa using hj
    exact h.1
  | f :: fs, n, j + 1, l, h, hj => by
    rw [allFs, Bool.and_eq_true] at h
    have := allFs_get gs fs (n + 1) j l h.2 (by simpa using hj)
    rw [show n + 1 + j = n + (j + 1) by omega] at this
    exact this
theorem op6_of {m k n : Int} {i : Ins} (h : opnd m k n i = true) (h6 : i.op = 6) : 1 ≤ i.a ∧ 1 ≤ i.b ∧ i.a + i.b ≤ m := by
  simp [opnd, wi, h6] at h
  omega
/-- A code that may be run: what the machine leans on. -/
theorem good_of (c : Mc) (fst : Int) {fe : Fe} (h : checkB c.cl.cd = true) (hm : c.cl.fs.length ≤ 3000) (hr : c.cl.rs.length ≤ 3000) (hq : ∀ f ∈ c.cl.fs, f.is.length ≤ 3000) (hf : c.cl.fs[c.f]? = some fe) (hfst : c.fst = if c.f = 0 then 0 else 1) :
    ∃ V gg, Good c V fe.is gg ∧ V.at_[0]? = some (some (if c.f = 0 then 0 else 1, 0)) := by
  have h : checkB ⟨c.cl.fs.map Fe.is, c.cl.rs⟩ = true := h
  unfold checkB at h
  rw [Bool.and_eq_true, Bool.and_eq_true, Bool.and_eq_true] at h
  obtain ⟨_, _, hop, hmd⟩ := h
  simp only [List.length_map] at hop hmd
  cases hg : madeFs (c.cl.fs.map Fe.is) (List.replicate c.cl.fs.length (0, 0)) with
  | none => rw [hg] at hmd; cases hmd
  | some gs =>
    rw [hg] at hmd
    have hmd : (madeOK gs && allFs gs (c.cl.fs.map Fe.is) 0) = true := hmd
    rw [Bool.and_eq_true] at hmd
    have hfm : (c.cl.fs.map Fe.is)[c.f]? = some fe.is := by rw [List.getElem?_map, hf]; rfl
    have hall := allFs_get gs _ 0 c.f fe.is hmd.2 hfm
    rw [Nat.zero_add] at hall
    obtain ⟨V, hV, hat⟩ := Wk.all_closed hall
    have hmem : ∀ f ∈ c.cl.fs, ∀ i ∈ f.is, opnd (c.cl.fs.length : Int) (c.cl.rs.length : Int) (f.is.length : Int) i = true := fun f hf i hi => opnds_mem hop hf hi
    have hmk := madeFs_mk c.f _ [] _ gs hg (fun l hl i hi h6 => by
      obtain ⟨f, hf, rfl⟩ := List.mem_map.1 hl
      rw [List.length_replicate]
      exact op6_of (hmem f hf i hi) h6) ⟨fun x hx => by simp at hx, fun _ => by
      unfold mk
      rw [List.getElem?_replicate]
      split <;> rfl⟩
    rw [List.nil_append] at hmk
    refine ⟨V, mk gs c.f, ⟨⟨fe, hf, rfl⟩, hV, hfst, hmem fe (List.mem_of_getElem? hf), fun x hx => ?_, hm, hr, hq, fun f hf i hi h6 => by have := op6_of (hmem f hf i hi) h6; omega⟩, ?_⟩
    · rcases hx with ⟨l, hl, hx, hc⟩ | ⟨hn, rfl⟩
      · have := hmk.1 x (List.mem_flatten.2 ⟨l, hl, hx⟩) hc
        rw [this]; exact ⟨rfl, rfl⟩
      · have := hmk.2 fun x hx => by
          obtain ⟨l, hl, hx⟩ := List.mem_flatten.1 hx
          exact hn l hl x hx
        rw [this]; exact ⟨rfl, rfl⟩
    · rw [hat]
      by_cases e : c.f = 0
      · rw [if_pos (by simp [e]), if_pos e]
      · rw [if_neg (by simp [e]), if_neg e]
end Go.Proofs.Ytimkiifcmegfeaa
