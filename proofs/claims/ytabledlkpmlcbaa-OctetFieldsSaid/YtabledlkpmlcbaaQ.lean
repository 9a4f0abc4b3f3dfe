/- A slice of fields that came in; the bytes of a record. -/
import Derived.Test.YtabledlkpmlcbaaG
import Derived.OpenShut
import Derived.Deep.SlicePairs
namespace Go.Proofs.Ytabledlkpmlcbaa
open Go.RowKit Go.ChangeShapes Go.WideShapes

/-- What a value of type []Field reads as. -/
def Flds (w : World) (A : Option Addr) (fs : List (Nat × Nat)) : Prop :=
  ∀ (r : Nat) (f : Nat × Nat), fs[r]? = some f → ∃ b off, A = some ⟨b, off, none⟩ ∧ b < w.heap.size ∧ w.cell? ⟨b, off + r * 2, none⟩ = some (.int .u64 (f.1 : Int)) ∧ w.cell? ⟨b, off + r * 2 + 1, none⟩ = some (.int .u8 (f.2 : Int)) ∧ f.1 < 18446744073709551616 ∧ f.2 < 256
theorem Flds.below {w w' : World} {A : Option Addr} {fs : List (Nat × Nat)} (h : Flds w A fs) (hb : Below w.heap.size w w') : Flds w' A fs := fun r f hr => by
  obtain ⟨b, off, e, hlt, h1, h2, h3⟩ := h r f hr
  exact ⟨b, off, e, Nat.lt_of_lt_of_le hlt hb.size, (hb.cell (p := ⟨b, off + r * 2, none⟩) hlt).trans h1, (hb.cell (p := ⟨b, off + r * 2 + 1, none⟩) hlt).trans h2, h3⟩
def OpenedF (w : World) (v : Value) : Prop := ∃ A len cap fs, v = .slice A len cap ∧ fs.length = len ∧ len ≤ cap ∧ cap ≤ maxLen ∧ Flds w A fs

theorem add_none {b off : Nat} (i : Nat) : (⟨b, off, none⟩ : Addr).add i = ⟨b, off + i, none⟩ := by unfold Addr.add; split <;> simp_all

theorem openedF {H : Type} {enc : TypeId × Value → H} {W : World} {v : Value} {d : DataW H} {p : List MemPlace} (hok : Value.okWide Try.prog W .any 0 35 v)
    (h : DataW.Trod enc Try.prog W 0 (fun _ => true) true 35 v d p) : OpenedF W v := by
  obtain ⟨a0, len0, cap0, rfl⟩ := okWide_slice Try.underlying35 hok
  obtain ⟨fuel, hf⟩ := h
  rcases Deep.open_slice_pairs Try.underlying35 Try.underlying39 (by kernel_rfl) rfl rfl (by kernel_rfl) (by kernel_rfl) hf with ⟨hcs, _⟩ | ⟨x, l, c, m, n, V0, V1, D0, D1, P0, P1, hcs, _, hl, hm, hmm, _, hr⟩
  · simp [Value.cells] at hcs
    obtain ⟨rfl, rfl, rfl⟩ := hcs
    exact ⟨none, 0, 0, [], rfl, rfl, Nat.le_refl _, Nat.zero_le _, fun r bs h => by simp at h⟩
  · simp [Value.cells] at hcs
    obtain ⟨rfl, rfl, rfl⟩ := hcs
    simp only [if_true] at hmm
    subst hmm
    have each : ∀ r, r < m → ∃ f : Nat × Nat, V0 r = .int .u64 (f.1 : Int) ∧ V1 r = .int .u8 (f.2 : Int) ∧ f.1 < 18446744073709551616 ∧ f.2 < 256 := by
      intro r hrm
      obtain ⟨_, _, t0, t1⟩ := hr r hrm
      obtain ⟨n0, e0, _, f0⟩ := DataW.trod_int Try.underlying23 t0
      obtain ⟨n1, e1, _, f1⟩ := DataW.trod_int Try.underlying5 t1
      obtain ⟨x, rfl, hx⟩ := wf_u64 f0
      obtain ⟨y, rfl, hy⟩ := wf_u8n f1
      exact ⟨(x, y), by simpa using e0, by simpa using e1, hx, hy⟩
    obtain ⟨F, hF⟩ := Deep.choose_lt each
    refine ⟨some x, len0, m, (List.range len0).map F, rfl, by simp, hl, hm, fun r f hfr => ?_⟩
    rw [List.getElem?_map] at hfr
    have hrl : r < len0 := by
      rcases Nat.lt_or_ge r len0 with h | h
      · exact h
      · rw [List.getElem?_eq_none (by simp; omega)] at hfr; cases hfr
    rw [List.getElem?_range hrl] at hfr
    simp only [Option.map_some, Option.some.injEq] at hfr
    obtain ⟨h0, h1, _, _⟩ := hr r (by omega)
    obtain ⟨k0, _, _, _⟩ := hr 0 (by omega)
    obtain ⟨g0, g1, g2⟩ := hF r (by omega)
    obtain ⟨b, off, spot⟩ := x
    have hspot : spot = none := by simpa [Addr.add] using World.cell?_spot k0
    subst hspot
    rw [add_none, g0, hfr] at h0
    rw [add_none, g1, hfr] at h1
    rw [hfr] at g2
    exact ⟨b, off, rfl, World.block_lt_of_cell? W _ h0, h0, h1, g2⟩

/-! ### The bytes of a record -/

def sz (s : Nat) : Nat := match s % 4 with | 0 => 1 | 1 => 2 | 2 => 4 | _ => 8
theorem sz_size (s : Nat) : sizeB (sz s) = true := by unfold sz; split <;> decide
theorem sz_le (s : Nat) : sz s ≤ 8 ∧ 1 ≤ sz s := by unfold sz; split <;> decide
def sizes : List Nat := [1, 2, 4, 8]
theorem sz_get (s : Nat) : sizes[s % 4]? = some (sz s) := by
  unfold sz
  rcases (by omega : s % 4 = 0 ∨ s % 4 = 1 ∨ s % 4 = 2 ∨ s % 4 = 3) with h | h | h | h <;> rw [h] <;> rfl

/-- The fields' bytes, one behind the other. -/
def body : List (Nat × Nat) → List UInt8
  | [] => []
  | f :: r => lePut f.1 (sz f.2) ++ body r
theorem body_append (a b : List (Nat × Nat)) : body (a ++ b) = body a ++ body b := by
  induction a with
  | nil => rfl
  | cons f a ih => simp [body, ih]
theorem body_take_succ (fs : List (Nat × Nat)) (k : Nat) (f : Nat × Nat) (h : fs[k]? = some f) : body (fs.take (k + 1)) = body (fs.take k) ++ lePut f.1 (sz f.2) := by
  have hk : k < fs.length := by
    rcases Nat.lt_or_ge k fs.length with h' | h'
    · exact h'
    · rw [List.getElem?_eq_none h'] at h; cases h
  rw [List.getElem?_eq_getElem hk] at h
  cases h
  rw [List.take_succ_eq_append_getElem hk, body_append]
  simp [body]
theorem body_length (fs : List (Nat × Nat)) : (body fs).length ≤ 8 * fs.length := by
  induction fs with
  | nil => simp [body]
  | cons f r ih =>
    have := (sz_le f.2).1
    simp only [body, List.length_append, lePut_length, List.length_cons]
    omega
theorem body_take_le (fs : List (Nat × Nat)) (k : Nat) : (body (fs.take k)).length ≤ (body fs).length := by
  have h := congrArg List.length (body_append (fs.take k) (fs.drop k))
  rw [List.take_append_drop, List.length_append] at h
  omega
/-- A field stands where the sizes ahead of it come to. -/
theorem field_at (ahead rest : List UInt8) (fs : List (Nat × Nat)) (k : Nat) (f : Nat × Nat) (h : fs[k]? = some f) :
    fieldOf (ahead ++ body fs ++ rest) (ahead.length + (body (fs.take k)).length) (sz f.2) = lePut f.1 (sz f.2) ∧ ahead.length + (body (fs.take k)).length + sz f.2 ≤ (ahead ++ body fs).length := by
  have h1 := body_take_succ fs k f h
  have h2 : body fs = body (fs.take (k + 1)) ++ body (fs.drop (k + 1)) := by rw [← body_append, List.take_append_drop]
  rw [h1] at h2
  constructor
  · unfold fieldOf
    rw [h2]
    have e : ahead ++ (body (fs.take k) ++ lePut f.1 (sz f.2) ++ body (fs.drop (k + 1))) ++ rest = (ahead ++ body (fs.take k)) ++ (lePut f.1 (sz f.2) ++ (body (fs.drop (k + 1)) ++ rest)) := by simp
    rw [e, List.drop_left' (by simp), List.take_left' (by rw [lePut_length])]
  · rw [h2]
    simp only [List.length_append, lePut_length]
    omega
theorem leN_lePut (x n : Nat) : leN (lePut x n) = x % 256 ^ n := by
  induction n generalizing x with
  | zero => simp [lePut, leN, Nat.mod_one]
  | succ n ih =>
    simp only [lePut, leN, ih]
    rw [Nat.pow_succ, Nat.mul_comm (256 ^ n) 256, Nat.mod_mul]
    have : (UInt8.ofNat x).toNat = x % 256 := UInt8.toNat_ofNat'
    rw [this]
/-- What a field of fewer than eight bytes says. -/
theorem want_eq (x s : Nat) (hx : x < 18446744073709551616) : leN (lePut x (sz s)) = if sz s < 8 then x % 2 ^ (8 * sz s) else x := by
  rw [leN_lePut]
  split
  · rw [show (256 : Nat) = 2 ^ 8 by decide, ← Nat.pow_mul]
  · have h8 : sz s = 8 := by have := (sz_le s).1; omega
    rw [h8]
    exact Nat.mod_eq_of_lt (by have : (256 : Nat) ^ 8 = 18446744073709551616 := by decide
                               omega)


end Go.Proofs.Ytabledlkpmlcbaa
