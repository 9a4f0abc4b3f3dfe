/- types: types, apart from memory and in memory. -/
import Derived.Test.YtndhojnfjlkojaaF
namespace Go.Proofs.Ytndhojnfjlkojaa
open Go.RowKit
set_option linter.unusedVariables false
/-- A type. -/
inductive Ty where
  | node (k : Nat) (nm : List UInt8) (n : Int) (ks : List Ty)
namespace Ty
def k : Ty → Nat | node k _ _ _ => k
def nm : Ty → List UInt8 | node _ nm _ _ => nm
def n : Ty → Int | node _ _ n _ => n
def ks : Ty → List Ty | node _ _ _ ks => ks
theorem ind {P : Ty → Prop} (h : ∀ k nm n ks, (∀ t ∈ ks, P t) → P (node k nm n ks)) : ∀ t, P t
  | node k nm n ks => h k nm n ks fun t ht => ind h t
termination_by t => SizeOf.sizeOf t
decreasing_by
  have := List.sizeOf_lt_of_mem ht
  simp
  omega
/-- A head that may be in memory. -/
def ok (t : Ty) : Prop := t.k < 256 ∧ (-9223372036854775808 ≤ t.n ∧ t.n < 9223372036854775808)
def cells (t : Ty) (A : Option Addr) (c : Nat) : List Value := [.int .u8 (t.k : Int), .string (str t.nm), .int .i64 t.n, .slice A t.ks.length c]
def val (t : Ty) (A : Option Addr) (c : Nat) : Value := .agg #[.int .u8 (t.k : Int), .string (str t.nm), .int .i64 t.n, .slice A t.ks.length c]
/-- A row of types in memory, all of whose blocks are in F. -/
inductive At (F : Nat → Prop) (w : World) : Option Addr → List Ty → Prop
  | nil (A : Option Addr) : At F w A []
  | mk (b off : Nat) (ts : List Ty) (Af : Nat → Option Addr) (cf : Nat → Nat) (hF : F b) (hlt : b < w.heap.size)
      (hc : ∀ (r : Nat) (t : Ty), ts[r]? = some t → (∀ (j : Nat) (v : Value), (t.cells (Af r) (cf r))[j]? = some v → w.cell? ⟨b, off + r * 4 + j, none⟩ = some v) ∧ t.ok ∧ t.ks.length ≤ cf r ∧ cf r ≤ maxLen)
      (hk : ∀ (r : Nat) (t : Ty), ts[r]? = some t → At F w (Af r) t.ks) : At F w (some ⟨b, off, none⟩) ts
section
variable {F G : Nat → Prop} {w w' : World} {A : Option Addr} {ts : List Ty}
theorem At.off (h : At F w A ts) (ho : Off G w w') (hG : ∀ b, F b → ¬ G b) : At F w' A ts := by
  induction h with
  | nil A => exact .nil A
  | mk b off ts Af cf hF hlt hc hk ih =>
    exact .mk b off ts Af cf hF (Nat.lt_of_lt_of_le hlt ho.size) (fun r t ht => by
      obtain ⟨h1, h2⟩ := hc r t ht
      exact ⟨fun j v hj => (World.cell?_of_block (a := ⟨b, off + r * 4 + j, none⟩) (ho.block b hlt (hG b hF))).trans (h1 j v hj), h2⟩) fun r t ht => ih r t ht
theorem At.bel (h : At F w A ts) (hb : Below w.heap.size w w') : At F w' A ts := by
  induction h with
  | nil A => exact .nil A
  | mk b off ts Af cf hF hlt hc hk ih =>
    exact .mk b off ts Af cf hF (Nat.lt_of_lt_of_le hlt hb.size) (fun r t ht => by
      obtain ⟨h1, h2⟩ := hc r t ht
      exact ⟨fun j v hj => (hb.cell (p := ⟨b, off + r * 4 + j, none⟩) hlt).trans (h1 j v hj), h2⟩) fun r t ht => ih r t ht
theorem At.mono (h : At F w A ts) (hF : ∀ b, F b → G b) : At G w A ts := by
  induction h with
  | nil A => exact .nil A
  | mk b off ts Af cf hF' hlt hc hk ih => exact .mk b off ts Af cf (hF b hF') hlt hc fun r t ht => ih r t ht
/-- One of the row. -/
theorem At.get (h : At F w A ts) {r : Nat} {t : Ty} (ht : ts[r]? = some t) : ∃ b off A' c', A = some ⟨b, off, none⟩ ∧ F b ∧ b < w.heap.size ∧ w.cell? ⟨b, off + r * 4, none⟩ = some (.int .u8 (t.k : Int)) ∧ w.cell? ⟨b, off + r * 4 + 1, none⟩ = some (.string (str t.nm)) ∧ w.cell? ⟨b, off + r * 4 + 2, none⟩ = some (.int .i64 t.n) ∧ w.cell? ⟨b, off + r * 4 + 3, none⟩ = some (.slice A' t.ks.length c') ∧ t.ok ∧ t.ks.length ≤ c' ∧ c' ≤ maxLen ∧ At F w A' t.ks := by
  cases h with
  | nil A => simp at ht
  | mk b off ts Af cf hF hlt hc hk =>
    obtain ⟨h1, h2, h3, h4⟩ := hc r t ht
    exact ⟨b, off, Af r, cf r, rfl, hF, hlt, h1 0 _ rfl, h1 1 _ rfl, h1 2 _ rfl, h1 3 _ rfl, h2, h3, h4, hk r t ht⟩
end
/-! What is told of types. -/
mutual
def right : Ty → Bool
  | node k nm n ks => if k = 1 then (decide (0 ≤ n) && nm.isEmpty && ks.isEmpty) else if k = 2 then (!nm.isEmpty && decide (n = 0) && rights ks) else if k = 3 then (nm.isEmpty && decide (n = 0) && decide (ks.length = 2) && rights ks) else if k = 4 then (nm.isEmpty && decide (n = 0) && decide (2 ≤ ks.length) && rights ks) else false
def rights : List Ty → Bool
  | [] => true
  | t :: ts => right t && rights ts
end
mutual
def same : Ty → Ty → Bool
  | node k nm n ks, node k' nm' n' ks' => decide (k = k') && decide (nm = nm') && decide (n = n') && sames ks ks'
def sames : List Ty → List Ty → Bool
  | [], [] => true
  | t :: ts, u :: us => same t u && sames ts us
  | _, _ => false
end
mutual
def depth : Ty → Nat
  | node _ _ _ ks => depths ks + 1
def depths : List Ty → Nat
  | [] => 0
  | t :: ts => max (depth t) (depths ts)
end
mutual
def parts : Ty → Nat
  | node _ _ _ ks => partss ks + 1
def partss : List Ty → Nat
  | [] => 0
  | t :: ts => parts t + partss ts
end
mutual
def put (l : List Ty) : Ty → Ty
  | node k nm n ks => if k = 1 ∧ 0 ≤ n ∧ n < (l.length : Int) then l[n.toNat]?.getD (node k nm n ks) else node k nm n (puts l ks)
def puts (l : List Ty) : List Ty → List Ty
  | [] => []
  | t :: ts => put l t :: puts l ts
end
theorem rights_all : ∀ ts, rights ts = ts.all right
  | [] => by simp [rights]
  | t :: ts => by rw [rights, rights_all ts, List.all_cons]
theorem right_eq (k : Nat) (nm : List UInt8) (n : Int) (ks : List Ty) : right (node k nm n ks) = if k = 1 then (decide (0 ≤ n) && nm.isEmpty && ks.isEmpty) else if k = 2 then (!nm.isEmpty && decide (n = 0) && ks.all right) else if k = 3 then (nm.isEmpty && decide (n = 0) && decide (ks.length = 2) && ks.all right) else if k = 4 then (nm.isEmpty && decide (n = 0) && decide (2 ≤ ks.length) && ks.all right) else false := by
  rw [right, rights_all]
theorem puts_map (l : List Ty) : ∀ ts, puts l ts = ts.map (put l)
  | [] => by simp [puts]
  | t :: ts => by rw [puts, puts_map l ts, List.map_cons]
theorem sames_len : ∀ {ts us : List Ty}, sames ts us = true → ts.length = us.length
  | [], [], _ => rfl
  | [], _ :: _, h => by simp [sames] at h
  | _ :: _, [], h => by simp [sames] at h
  | t :: ts, u :: us, h => by
    rw [sames, Bool.and_eq_true] at h
    rw [List.length_cons, List.length_cons, sames_len h.2]
theorem sames_iff : ∀ {ts us : List Ty}, ts.length = us.length → (sames ts us = true ↔ ∀ (r : Nat) (t u : Ty), ts[r]? = some t → us[r]? = some u → same t u = true)
  | [], [], _ => by simp [sames]
  | t :: ts, u :: us, h => by
    have ih := sames_iff (ts := ts) (us := us) (by simpa using h)
    rw [sames, Bool.and_eq_true, ih]
    constructor
    · rintro ⟨h1, h2⟩ r x y hx hy
      cases r with
      | zero => simp at hx hy; subst hx; subst hy; exact h1
      | succ r => exact h2 r x y (by simpa using hx) (by simpa using hy)
    · intro h2
      exact ⟨h2 0 t u rfl rfl, fun r x y hx hy => h2 (r + 1) x y (by simpa using hx) (by simpa using hy)⟩
theorem same_refl : ∀ t, same t t = true := ind fun k nm n ks ih => by
  rw [same]
  simp
  exact (sames_iff rfl).2 fun r t u ht hu => by
    rw [ht] at hu
    cases hu
    exact ih t (List.mem_of_getElem? ht)
theorem same_eq : ∀ t u, same t u = true → t = u := ind fun k nm n ks ih u h => by
  obtain ⟨k', nm', n', ks'⟩ := u
  rw [same] at h
  simp at h
  obtain ⟨⟨⟨rfl, rfl⟩, rfl⟩, h⟩ := h
  have hl := sames_len h
  have : ks = ks' := List.ext_getElem? fun r => by
    rcases Nat.lt_or_ge r ks.length with hr | hr
    · have h1 := List.getElem?_eq_getElem hr
      have h2 : ks'[r]? = some (ks'[r]'(by omega)) := List.getElem?_eq_getElem _
      rw [h1, h2, ih _ (List.getElem_mem hr) _ ((sames_iff hl).1 h r _ _ h1 h2)]
    · rw [List.getElem?_eq_none hr, List.getElem?_eq_none (by omega)]
  rw [this]
theorem same_iff {t u : Ty} : same t u = true ↔ t = u := ⟨same_eq t u, fun e => e ▸ same_refl t⟩
theorem depths_mem {ts : List Ty} {t : Ty} (h : t ∈ ts) : depth t ≤ depths ts := by
  induction ts with
  | nil => cases h
  | cons u ts ih =>
    rw [depths]
    rcases List.mem_cons.1 h with rfl | h
    · exact Nat.le_max_left _ _
    · exact Nat.le_trans (ih h) (Nat.le_max_right _ _)
end Ty
end Go.Proofs.Ytndhojnfjlkojaa
