/- stamp: types, apart from memory and in memory. -/
import Derived.Test.YtadogebhkldeiaaGreatDoorF
namespace Go.Proofs.YtadogebhkldeiaaGreatDoor
open Go.RowKit
set_option linter.unusedVariables false
/-- A type. -/
inductive Ty where
  | node (k : Nat) (nm : List UInt8) (n : Int) (ks : List Ty)
namespace Ty
def k : Ty → Nat | node k _ _ _ => k
def nm : Ty → List UInt8 | node _ nm _ _ => nm
def n : Ty → Int | node _ _ n _ => n
def ks : Ty → List Ty | node _ _ _ ks => ks
theorem ind {P : Ty → Prop} (h : ∀ k nm n ks, (∀ t ∈ ks, P t) → P (node k nm n ks)) : ∀ t, P t
  | node k nm n ks => h k nm n ks fun t ht => ind h t
termination_by t => SizeOf.sizeOf t
decreasing_by
  have := List.sizeOf_lt_of_mem ht
  simp
  omega
/-- A head that may be in memory. -/
def ok (t : Ty) : Prop := t.k < 256 ∧ (-9223372036854775808 ≤ t.n ∧ t.n < 9223372036854775808) ∧ t.nm.length ≤ maxLen
def cells (t : Ty) (A : Option Addr) (c : Nat) : List Value := [.int .u8 (t.k : Int), .string (str t.nm), .int .i64 t.n, .slice A t.ks.length c]
def val (t : Ty) (A : Option Addr) (c : Nat) : Value := .agg #[.int .u8 (t.k : Int), .string (str t.nm), .int .i64 t.n, .slice A t.ks.length c]
/-- A row of types in memory, all of whose blocks are in F. -/
inductive At (F : Nat → Prop) (w : World) : Option Addr → List Ty → Prop
  | nil (A : Option Addr) : At F w A []
  | mk (b off : Nat) (ts : List Ty) (Af : Nat → Option Addr) (cf : Nat → Nat) (hF : F b) (hlt : b < w.heap.size)
      (hc : ∀ (r : Nat) (t : Ty), ts[r]? = some t → (∀ (j : Nat) (v : Value), (t.cells (Af r) (cf r))[j]? = some v → w.cell? ⟨b, off + r * 4 + j, none⟩ = some v) ∧ t.ok ∧ t.ks.length ≤ cf r ∧ cf r ≤ maxLen)
      (hk : ∀ (r : Nat) (t : Ty), ts[r]? = some t → At F w (Af r) t.ks) : At F w (some ⟨b, off, none⟩) ts
section
variable {F G : Nat → Prop} {w w' : World} {A : Option Addr} {ts : List Ty}
theorem At.off (h : At F w A ts) (ho : Off G w w') (hG : ∀ b, F b → ¬ G b) : At F w' A ts := by
  induction h with
  | nil A => exact .nil A
  | mk b off ts Af cf hF hlt hc hk ih =>
    exact .mk b off ts Af cf hF (Nat.lt_of_lt_of_le hlt ho.size) (fun r t ht => by
      obtain ⟨h1, h2⟩ := hc r t ht
      exact ⟨fun j v hj => (World.cell?_of_block (a := ⟨b, off + r * 4 + j, none⟩) (ho.block b hlt (hG b hF))).trans (h1 j v hj), h2⟩) fun r t ht => ih r t ht
theorem At.bel (h : At F w A ts) (hb : Below w.heap.size w w') : At F w' A ts := by
  induction h with
  | nil A => exact .nil A
  | mk b off ts Af cf hF hlt hc hk ih =>
    exact .mk b off ts Af cf hF (Nat.lt_of_lt_of_le hlt hb.size) (fun r t ht => by
      obtain ⟨h1, h2⟩ := hc r t ht
      exact ⟨fun j v hj => (hb.cell (p := ⟨b, off + r * 4 + j, none⟩) hlt).trans (h1 j v hj), h2⟩) fun r t ht => ih r t ht
theorem At.mono (h : At F w A ts) (hF : ∀ b, F b → G b) : At G w A ts := by
  induction h with
  | nil A => exact .nil A
  | mk b off ts Af cf hF' hlt hc hk ih => exact .mk b off ts Af cf (hF b hF') hlt hc fun r t ht => ih r t ht
/-- One of the row. -/
theorem At.get (h : At F w A ts) {r : Nat} {t : Ty} (ht : ts[r]? = some t) : ∃ b off A' c', A = some ⟨b, off, none⟩ ∧ F b ∧ b < w.heap.size ∧ w.cell? ⟨b, off + r * 4, none⟩ = some (.int .u8 (t.k : Int)) ∧ w.cell? ⟨b, off + r * 4 + 1, none⟩ = some (.string (str t.nm)) ∧ w.cell? ⟨b, off + r * 4 + 2, none⟩ = some (.int .i64 t.n) ∧ w.cell? ⟨b, off + r * 4 + 3, none⟩ = some (.slice A' t.ks.length c') ∧ t.ok ∧ t.ks.length ≤ c' ∧ c' ≤ maxLen ∧ At F w A' t.ks := by
  cases h with
  | nil A => simp at ht
  | mk b off ts Af cf hF hlt hc hk =>
    obtain ⟨h1, h2, h3, h4⟩ := hc r t ht
    exact ⟨b, off, Af r, cf r, rfl, hF, hlt, h1 0 _ rfl, h1 1 _ rfl, h1 2 _ rfl, h1 3 _ rfl, h2, h3, h4, hk r t ht⟩
end
mutual
def parts : Ty → Nat
  | node _ _ _ ks => partss ks + 1
def partss : List Ty → Nat
  | [] => 0
  | t :: ts => parts t + partss ts
end
theorem partss_append : ∀ l m : List Ty, partss (l ++ m) = partss l + partss m
  | [], m => by simp [partss]
  | t :: l, m => by rw [List.cons_append, partss, partss, partss_append l m, Nat.add_assoc]
theorem partss_mem : ∀ {l : List Ty} {t : Ty}, t ∈ l → parts t ≤ partss l
  | [], _, h => by cases h
  | u :: l, t, h => by
    rw [partss]
    rcases List.mem_cons.1 h with rfl | h
    · omega
    · have := partss_mem h; omega
theorem parts_eq (t : Ty) : parts t = partss t.ks + 1 := by cases t; rw [parts]; rfl
theorem partss_take (l : List Ty) {i : Nat} {t : Ty} (h : l[i]? = some t) : partss (l.take (i + 1)) = partss (l.take i) + parts t := by
  rw [List.take_add_one, h, partss_append]
  simp [partss]
theorem partss_take_le (l : List Ty) (i : Nat) : partss (l.take i) ≤ partss l := by
  have := partss_append (l.take i) (l.drop i)
  rw [List.take_append_drop] at this
  omega
end Ty
end Go.Proofs.YtadogebhkldeiaaGreatDoor
