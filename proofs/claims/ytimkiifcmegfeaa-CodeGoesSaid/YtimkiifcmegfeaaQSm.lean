/- Contracts. -/
import Derived.Test.YtimkiifcmegfeaaQHm
/- code: a small code that is spoilt, apart from memory. -/
namespace Go.Proofs.Ytimkiifcmegfeaa
open Go.RowKit
set_option linter.unusedVariables false
set_option linter.unusedSimpArgs false
/-- The small code. -/
def smA : List Ins := [⟨1, 5, 0, 0, []⟩, ⟨6, 1, 1, 1, []⟩, ⟨18, 7, 0, 0, []⟩, ⟨3, 0, 0, 0, []⟩, ⟨1, 7, 0, 0, []⟩, ⟨7, 0, 0, 0, []⟩, ⟨19, 0, 0, 0, []⟩, ⟨15, 0, 0, 0, []⟩, ⟨25, 0, 0, 0, []⟩]
def smB : List Ins := [⟨3, 0, 0, 0, []⟩, ⟨4, 0, 0, 0, []⟩, ⟨16, 0, 0, 0, [43]⟩, ⟨8, 0, 0, 0, []⟩]
def smC : Cd := ⟨[smA, smB], []⟩
def rsT : List (List UInt8 × List UInt8) := [([114], [105, 110, 116]), ([115], [105, 110, 116])]
def rsR : List (List UInt8 × List UInt8) := [([114], [105, 110, 116]), ([114], [105, 110, 116])]
theorem sm_ok : checkB smC = true := by kernel_rfl
theorem sm_third : checkB ⟨[smA, smB, [⟨3, 0, 0, 0, []⟩, ⟨8, 0, 0, 0, []⟩]], []⟩ = false := by kernel_rfl
theorem sm_twice : checkB ⟨[smA ++ [⟨6, 1, 1, 0, []⟩], smB], []⟩ = false := by kernel_rfl
theorem sm_two : checkB ⟨[smA, smB], rsT⟩ = true := by kernel_rfl
theorem sm_same : checkB ⟨[smA, smB], rsR⟩ = false := by kernel_rfl
theorem check_opnds {fs : List (List Ins)} {rs : List (List UInt8 × List UInt8)} (h : opnds (fs.length : Int) (rs.length : Int) fs = false) : checkB ⟨fs, rs⟩ = false := by
  unfold checkB
  rw [h]
  simp
theorem opnds_at {m k : Int} {fs : List (List Ins)} {f : Nat} {l : List Ins} {j : Nat} {i : Ins} (hf : fs[f]? = some l) (hj : l[j]? = some i) (h : opnd m k (l.length : Int) i = false) : opnds m k fs = false := by
  unfold opnds
  rw [List.all_eq_false]
  refine ⟨l, List.mem_of_getElem? hf, ?_⟩
  rw [Bool.not_eq_true, List.all_eq_false]
  exact ⟨i, List.mem_of_getElem? hj, by rw [h]; simp⟩
/-- A code in which an instruction is one that may not be. -/
theorem sm_spoilt {f k : Nat} {l : List Ins} {x : Ins} (hf : [smA, smB][f]? = some l) (hk : k < l.length) (h : opnd 2 0 (l.length : Int) x = false) : checkB ⟨[smA, smB].set f (l.set k x), []⟩ = false := by
  have hfl : f < [smA, smB].length := (List.getElem?_eq_some_iff.1 hf).1
  refine check_opnds ?_
  rw [List.length_set]
  refine opnds_at (f := f) (l := l.set k x) (j := k) (i := x) (by rw [List.getElem?_set_self hfl]) (by rw [List.getElem?_set_self hk]) ?_
  rw [List.length_set]
  exact h
def badOps : List Nat := [0, 26, 255]
theorem bad_op {m k n : Int} {i : Ins} {o : Nat} (h : o ∈ badOps) : opnd m k n { i with op := o } = false := by
  simp only [badOps, List.mem_cons, List.not_mem_nil, or_false] at h
  rcases h with rfl | rfl | rfl <;> rfl
theorem bad_prim {m k n : Int} : opnd m k n ⟨16, 0, 0, 0, [110, 111, 98, 111, 100, 121]⟩ = false := rfl
/-- All instructions of the small code with a text that is none; with another operand. -/
def okI (i : Ins) : Prop := i ∈ smA ∨ i ∈ smB
theorem bad_text (m k n : Int) {i : Ins} (h : okI i) : opnd m k n { i with tx := [120] } = false := by
  rcases h with h | h
  · simp only [smA, List.mem_cons, List.not_mem_nil, or_false] at h
    rcases h with rfl | rfl | rfl | rfl | rfl | rfl | rfl | rfl | rfl <;> simp [opnd]
  · simp only [smB, List.mem_cons, List.not_mem_nil, or_false] at h
    rcases h with rfl | rfl | rfl | rfl
    · simp [opnd]
    · simp [opnd]
    · rfl
    · simp [opnd]
theorem bad_b (m k n : Int) {i : Ins} (h : okI i) (h6 : i.op ≠ 6) (x : Int) (hx : x ≠ 0) : opnd m k n { i with b := x } = false := by
  rcases h with h | h
  · simp only [smA, List.mem_cons, List.not_mem_nil, or_false] at h
    rcases h with rfl | rfl | rfl | rfl | rfl | rfl | rfl | rfl | rfl <;> first | exact absurd rfl h6 | simp [opnd, hx]
  · simp only [smB, List.mem_cons, List.not_mem_nil, or_false] at h
    rcases h with rfl | rfl | rfl | rfl <;> simp [opnd, hx]
theorem bad_c (m k n : Int) {i : Ins} (h : okI i) (h6 : i.op ≠ 6) (x : Int) (hx : x ≠ 0) : opnd m k n { i with c := x } = false := by
  rcases h with h | h
  · simp only [smA, List.mem_cons, List.not_mem_nil, or_false] at h
    rcases h with rfl | rfl | rfl | rfl | rfl | rfl | rfl | rfl | rfl <;> first | exact absurd rfl h6 | simp [opnd, hx]
  · simp only [smB, List.mem_cons, List.not_mem_nil, or_false] at h
    rcases h with rfl | rfl | rfl | rfl <;> simp [opnd, hx]
end Go.Proofs.Ytimkiifcmegfeaa
