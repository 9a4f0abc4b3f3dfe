/- Contracts. -/
import Derived.Test.YtimkiifcmegfeaaQLg
import Derived.Test.YtimkiifcmegfeaaQLm
/- code: what a code that is not large holds. -/
namespace Go.Proofs.Ytimkiifcmegfeaa
open Go.RowKit
set_option linter.unusedVariables false
theorem own_cap {w : World} {B : Nat} {e : TypeId} {s n c : Nat} {A : Option Addr} {xs : List Value} (h : w.ownsRow B e s (.slice A n c) n xs) : n ≤ c ∧ c ≤ maxLen := by
  rcases h.2 with ⟨e, e0⟩ | ⟨g, cap', cur, e, h1, h2, h3, h4, _⟩
  · injection e with e1 e2 e3
    subst e3
    exact ⟨by omega, Nat.zero_le _⟩
  · injection e with e1 e2 e3
    subst e3
    exact ⟨h3, h4⟩
theorem le_sum : ∀ {l : List Nat} {n : Nat}, n ∈ l → n ≤ l.sum
  | x :: l, n, h => by
    rw [List.sum_cons]
    rcases List.mem_cons.1 h with rfl | h
    · omega
    · have := le_sum h; omega
theorem mI_mem {is : List Ins} {i : Ins} (h : i ∈ is) : i.tx.length / 16 ≤ mI is := le_sum (List.mem_map.2 ⟨i, h, rfl⟩)
theorem mF_mem {fs : List (List Ins)} {f : List Ins} (h : f ∈ fs) : f.length + mI f ≤ mF fs := le_sum (List.mem_map.2 ⟨f, h, rfl⟩)
theorem mR_mem {rs : List (List UInt8 × List UInt8)} {r : List UInt8 × List UInt8} (h : r ∈ rs) : (r.1.length + r.2.length) / 16 ≤ mR rs := le_sum (List.mem_map.2 ⟨r, h, rfl⟩)
theorem ibs_le : ∀ is : List Ins, (ibs is).length ≤ 44 * is.length + 16 * mI is
  | [] => by simp [ibs, mI]
  | i :: is => by
    have h := ibs_le is
    have e : mI (i :: is) = i.tx.length / 16 + mI is := by simp [mI]
    rw [ibs, List.length_append, ib_len, e, List.length_cons]
    omega
theorem fbs_le : ∀ fs : List (List Ins), (fbs fs).length ≤ 4 * fs.length + 44 * mF fs
  | [] => by simp [fbs, mF]
  | f :: fs => by
    have h := fbs_le fs
    have h2 := ibs_le f
    have e : mF (f :: fs) = (f.length + mI f) + mF fs := by simp [mF]
    rw [fbs, List.length_append, List.length_append, nb_len, e, List.length_cons]
    omega
theorem rbs_le : ∀ rs : List (List UInt8 × List UInt8), (rbs rs).length ≤ 24 * rs.length + 16 * mR rs
  | [] => by simp [rbs, mR]
  | r :: rs => by
    have h := rbs_le rs
    have e : mR (r :: rs) = (r.1.length + r.2.length) / 16 + mR rs := by simp [mR]
    have t : ∀ s : List UInt8, (tb s).length = 4 + s.length := fun s => by unfold tb; rw [List.length_append, nb_len]
    rw [rbs, List.length_append, List.length_append, t, t, e, List.length_cons]
    omega
theorem meas_len {c : Cd} (h : meas c ≤ 3000) : (cbytes c).length ≤ 300000 := by
  unfold meas at h
  have h1 := fbs_le c.fs
  have h2 := rbs_le c.rs
  unfold cbytes
  rw [List.length_append, List.length_append, List.length_append, nb_len, nb_len]
  omega
theorem len_min (c : Cd) : 8 ≤ (cbytes c).length := by
  unfold cbytes
  rw [List.length_append, List.length_append, List.length_append, nb_len, nb_len]
  omega
/-- A code that is not large may be written as it is. -/
theorem Cl.fine {cl : Cl} {X : Nat → Prop} {w : World} (hC : cl.At X w) (h : meas cl.cd ≤ 3000) : cl.cd.fine := by
  have hm : cl.cd.fs.length + cl.cd.rs.length + mF cl.cd.fs + mR cl.cd.rs ≤ 3000 := h
  refine ⟨by omega, by omega, fun f hf => ?_, fun r hr => ?_⟩
  · have h1 := mF_mem hf
    refine ⟨by omega, fun i hi => ?_⟩
    have h2 := mI_mem hi
    obtain ⟨fe, hfe, rfl⟩ := List.mem_map.1 hf
    exact ⟨(hC.fs.fs fe hfe).ins.ok i hi, by omega⟩
  · have h1 := mR_mem hr
    exact ⟨by omega, by omega⟩
theorem mF_count (fs : List (List Ins)) : (fs.map List.length).sum ≤ mF fs := by
  induction fs with
  | nil => simp [mF]
  | cons f fs ih =>
    have e : mF (f :: fs) = (f.length + mI f) + mF fs := by simp [mF]
    rw [List.map_cons, List.sum_cons, e]
    omega
theorem Cl.bounds {cl : Cl} (h : meas cl.cd ≤ 3000) : cl.fs.length ≤ 3000 ∧ cl.rs.length ≤ 3000 ∧ (cl.fs.map fun f => f.is.length).sum ≤ 3000 := by
  have hm : (cl.fs.map Fe.is).length + cl.rs.length + mF (cl.fs.map Fe.is) + mR cl.rs ≤ 3000 := h
  rw [List.length_map] at hm
  have h2 := mF_count (cl.fs.map Fe.is)
  rw [List.map_map] at h2
  have h3 : (cl.fs.map fun f => f.is.length).sum = (List.map (List.length ∘ Fe.is) cl.fs).sum := rfl
  exact ⟨by omega, by omega, by omega⟩
end Go.Proofs.Ytimkiifcmegfeaa
