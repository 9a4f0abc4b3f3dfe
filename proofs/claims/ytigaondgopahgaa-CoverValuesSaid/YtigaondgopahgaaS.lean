/- cover: a map from texts, as it is looked up and written. -/
import Derived.Test.YtigaondgopahgaaC
import Derived.Maps.OwnOps
import Derived.Maps.Views
import Derived.StringKeys
namespace Go.Proofs.Ytigaondgopahgaa
open Go.RowKit
set_option linter.unusedVariables false
set_option linter.unusedSimpArgs false
/-- How any value reads: as itself. -/
def asIs (v : Value) : Option (DataW Value × List MemPlace) := some (.held v, [])
/-- What is there, as a datum. -/
def heldOr : Option Value → DataW Value
  | none => .nil
  | some v => .held v
/-- Block b is a map from texts that says S, of at most n entries. -/
def SMap (w : World) (b n : Nat) (S : List UInt8 → Option Value) : Prop :=
  ∃ D : DataW Value, w.ownsMap Try.prog 9 asIs b n D ∧ ∀ s : List UInt8, s.length ≤ maxLen → D.atKey (.string s) .nil = heldOr (S s)
theorem SMap.same {w w' : World} {b n : Nat} {S : List UInt8 → Option Value} (h : SMap w b n S) (hb : w'.heap[b]? = w.heap[b]?) : SMap w' b n S := by
  obtain ⟨D, ⟨es, clock, h1, h2⟩, h3⟩ := h
  exact ⟨D, ⟨es, clock, hb.trans h1, h2⟩, h3⟩
theorem SMap.lt {w : World} {b n : Nat} {S : List UInt8 → Option Value} (h : SMap w b n S) : b < w.heap.size := by obtain ⟨D, h1, _⟩ := h; exact h1.lt
theorem SMap.made (w : World) : SMap (w.alloc (.map #[] 0)) w.heap.size 0 (fun _ => none) := ⟨_, World.ownsMap_made w _ _ _, fun _ _ => rfl⟩
theorem SMap.bel {w w' : World} {b n : Nat} {S : List UInt8 → Option Value} (h : SMap w b n S) (hb : Below w.heap.size w w') : SMap w' b n S := h.same (hb.block _ h.lt)
theorem key_of (s : List UInt8) (hs : s.length ≤ maxLen) : keyOf Try.prog 9 (.string (str s)) = some (.string s) := by
  have := Go.WideMaps.keyOf_string_mk (s := str s) Try.underlying9 (by simpa [str, ByteArray.size] using hs)
  rw [this]
  simp [str]
theorem SMap.look {w : World} {b n : Nat} {S : List UInt8 → Option Value} (h : SMap w b n S) {t e : TypeId} (ht : Try.prog.underlying t = some (.map 9 e)) {z : Value} (hz : (zeroValue e).run Try.prog w = .ok z w) (c : Bool) (s : List UInt8) (hs : s.length ≤ maxLen) :
    (Instr.lookup t (.map (some b)) (.string (str s)) c).run Try.prog w = .ok (if c then .tuple #[(S s).getD z, .bool (S s).isSome] else (S s).getD z) w := by
  obtain ⟨D, ⟨es, clock, hb, F, _, rfl⟩, h2⟩ := h
  have h3 := h2 s hs
  rcases Maps.fit_look c (Maps.string_keyed Try.underlying9) ht hz hb F (key_of s hs) with ⟨hrun, _, hat⟩ | ⟨e0, y, _, _, hrun, hRv, hat, _⟩
  · rw [hat] at h3
    cases hS : S s with
    | none => rw [hrun]; cases c <;> rfl
    | some v => rw [hS] at h3; cases h3
  · rw [hat] at h3
    cases hRv
    cases hS : S s with
    | none => rw [hS] at h3; cases h3
    | some v =>
      rw [hS] at h3
      cases h3
      rw [hrun]; cases c <;> rfl
theorem SMap.put {w : World} {b n : Nat} {S : List UInt8 → Option Value} (h : SMap w b n S) {t e : TypeId} (ht : Try.prog.underlying t = some (.map 9 e)) (s : List UInt8) (hs : s.length ≤ maxLen) (v : Value) (hn : n < 1000000) :
    ∃ w', (Instr.mapUpdate t (.map (some b)) (.string (str s)) v).run Try.prog w = .ok () w' ∧ SMap w' b (n + 1) (fun x => if x = s then some v else S x) ∧ Off (fun k => k = b) w w' := by
  obtain ⟨D, h1, h2⟩ := h
  obtain ⟨w', hr, h3, h4⟩ := h1.update (Maps.string_keyed Try.underlying9) ht (by unfold maxLen; omega) (key_of s hs) (show asIs v = some (.held v, []) from rfl)
  refine ⟨w', hr, ⟨_, h3, fun j hj => ?_⟩, (Off.of_grown h4).mono fun k _ e => by cases e; rfl⟩
  have hM : Maps.IsMap D := by obtain ⟨es, clock, _, _, _, e⟩ := h1; exact ⟨_, e⟩
  by_cases e : j = s
  · subst e
    rw [Maps.atKey_put_same hM (by simp [WideAt.IsKeyLit])]
    simp [heldOr]
  · rw [Maps.atKey_put_other (by simpa using e), h2 j hj]
    show _ = heldOr (if j = s then some v else S j)
    rw [if_neg e]
/-- What is known of a constructor, as a value. -/
def infV (i : Inf) (p m : Int) : Value := .agg #[.string (str i.nm), .string (str i.of), .int .i64 p, .int .i64 m, .bool i.has]
def infZ : Value := .agg #[.string (str []), .string (str []), .int .i64 0, .int .i64 0, .bool false]
/-- What is known of the constructors: the two maps of an asking. -/
structure Ask (F : Nat → Prop) (w : World) (b1 b2 n : Nat) (l : List Inf) : Prop where
  infos : ∃ (pf : List UInt8 → Int × Int), SMap w b1 n (fun s => (inf l s).map fun i => infV i (pf s).1 (pf s).2)
  of : ∃ (vf : List UInt8 → Value), SMap w b2 n (fun s => if manyOf l s = 0 then none else some (vf s)) ∧ ∀ s, manyOf l s ≠ 0 → ∃ A c, vf s = .slice A (manyOf l s) c
  f1 : F b1
  f2 : F b2
theorem Ask.off {F G : Nat → Prop} {w w' : World} {b1 b2 n : Nat} {l : List Inf} (h : Ask F w b1 b2 n l) (ho : Off G w w') (hG : ∀ b, F b → ¬ G b) : Ask F w' b1 b2 n l := by
  obtain ⟨⟨pf, h1⟩, ⟨vf, h2, h3⟩, h4, h5⟩ := h
  exact ⟨⟨pf, h1.same (ho.block _ h1.lt (hG _ h4))⟩, ⟨vf, h2.same (ho.block _ h2.lt (hG _ h5)), h3⟩, h4, h5⟩
theorem Ask.bel {F : Nat → Prop} {w w' : World} {b1 b2 n : Nat} {l : List Inf} (h : Ask F w b1 b2 n l) (hb : Below w.heap.size w w') : Ask F w' b1 b2 n l := by
  obtain ⟨⟨pf, h1⟩, ⟨vf, h2, h3⟩, h4, h5⟩ := h
  exact ⟨⟨pf, h1.bel hb⟩, ⟨vf, h2.bel hb, h3⟩, h4, h5⟩
/-- An asking, as a value. -/
def askV (b1 b2 : Nat) : Value := .agg #[.map (some b1), .map (some b2)]
/-- A name's info, with ok. -/
theorem Ask.look2 {F : Nat → Prop} {w : World} {b1 b2 n : Nat} {l : List Inf} (h : Ask F w b1 b2 n l) (s : List UInt8) (hs : s.length ≤ maxLen) : ∃ p m, (Instr.lookup 54 (.map (some b1)) (.string (str s)) true).run Try.prog w = .ok (.tuple #[infV ((inf l s).getD ⟨[], [], false⟩) p m, .bool (inf l s).isSome]) w := by
  obtain ⟨⟨pf, h1⟩, _⟩ := h
  have hz : (zeroValue 30).run Try.prog w = .ok infZ w := by kernel_rfl
  have := h1.look Try.underlying54 hz true s hs
  cases e : inf l s with
  | none => exact ⟨0, 0, by rw [this, e]; rfl⟩
  | some i => exact ⟨_, _, by rw [this, e]; rfl⟩
theorem Ask.look1 {F : Nat → Prop} {w : World} {b1 b2 n : Nat} {l : List Inf} (h : Ask F w b1 b2 n l) (s : List UInt8) (hs : s.length ≤ maxLen) : ∃ p m, (Instr.lookup 54 (.map (some b1)) (.string (str s)) false).run Try.prog w = .ok (infV ((inf l s).getD ⟨[], [], false⟩) p m) w := by
  obtain ⟨⟨pf, h1⟩, _⟩ := h
  have hz : (zeroValue 30).run Try.prog w = .ok infZ w := by kernel_rfl
  have := h1.look Try.underlying54 hz false s hs
  cases e : inf l s with
  | none => exact ⟨0, 0, by rw [this, e]; rfl⟩
  | some i => exact ⟨_, _, by rw [this, e]; rfl⟩
/-- How many constructors a datatype has. -/
theorem Ask.lookOf {F : Nat → Prop} {w : World} {b1 b2 n : Nat} {l : List Inf} (h : Ask F w b1 b2 n l) (s : List UInt8) (hs : s.length ≤ maxLen) : ∃ A c, (Instr.lookup 55 (.map (some b2)) (.string (str s)) false).run Try.prog w = .ok (.slice A (manyOf l s) c) w := by
  obtain ⟨_, ⟨vf, h1, h2⟩, _⟩ := h
  have hz : (zeroValue 59).run Try.prog w = .ok (.slice none 0 0) w := by kernel_rfl
  have := h1.look Try.underlying55 hz false s hs
  by_cases e : manyOf l s = 0
  · exact ⟨none, 0, by rw [this, e]; rfl⟩
  · obtain ⟨A, c, hA⟩ := h2 s e
    exact ⟨A, c, by rw [this, if_neg e, hA]; rfl⟩
end Go.Proofs.Ytigaondgopahgaa
