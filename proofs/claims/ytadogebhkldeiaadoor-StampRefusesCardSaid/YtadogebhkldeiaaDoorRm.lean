/- stamp: StampRefuses, apart from memory. -/
import Derived.Test.YtadogebhkldeiaaDoorI
namespace Go.Proofs.YtadogebhkldeiaaDoor
open Go.RowKit Ty
set_option linter.unusedVariables false
set_option linter.unusedSimpArgs false
def nmT (nm : List UInt8) (ks : List Ty) : Ty := .node 2 nm 0 ks
def bN : List UInt8 := [98]
def aN : List UInt8 := [97]
def lN : List UInt8 := [108, 105, 115, 116]
def rN : List UInt8 := [114, 101, 102]
/-- The ten types that may not be kept. -/
def badL : List Ty := [.node 3 [] 0 [tyInt, tyInt], .node 1 [39, 98] 0 [], nmT [101, 120, 110] [], nmT [110, 111, 98, 111, 100, 121] [], nmT [105, 110, 116] [tyInt], nmT rN [], nmT lN [], nmT [97, 114, 114, 97, 121] [tyInt, tyInt], .node 4 [] 0 [tyInt], .node 0 [] 0 []]
def wrapT (k : Nat) (t : Ty) : Ty := if k % 3 = 0 then nmT rN [t] else if k % 3 = 1 then .node 4 [] 0 [tyInt, t] else nmT lN [t]
def tyW (b : Ty) : Nat → Ty
  | 0 => b
  | k + 1 => wrapT k (tyW b k)
def decA (cA : Option Addr) : Dc := ⟨1, aN, [], [⟨[65], true, nmT bN []⟩], none, 0, cA, 1, zRst⟩
def decB (cA : Option Addr) (t : Ty) : Dc := ⟨1, bN, [], [⟨[66], false, tyN⟩, ⟨[67], true, t⟩], none, 0, cA, 2, zRst⟩
def dsR (vA c1 c2 c3 : Option Addr) (t : Ty) : List Dc := [listDc vA c1, decA c2, decB c3 t]
theorem book_l (vA c1 c2 c3 : Option Addr) (t : Ty) : bookD (dsR vA c1 c2 c3 t) lN = some (listDc vA c1) := by rfl
theorem book_a (vA c1 c2 c3 : Option Addr) (t : Ty) : bookD (dsR vA c1 c2 c3 t) aN = some (decA c2) := by rfl
theorem book_b (vA c1 c2 c3 : Option Addr) (t : Ty) : bookD (dsR vA c1 c2 c3 t) bN = some (decB c3 t) := by rfl
theorem book_e (vA c1 c2 c3 : Option Addr) (t : Ty) : bookD (dsR vA c1 c2 c3 t) [101, 120, 110] = none := by rfl
theorem book_n (vA c1 c2 c3 : Option Addr) (t : Ty) : bookD (dsR vA c1 c2 c3 t) [110, 111, 98, 111, 100, 121] = none := by rfl
theorem kept_wrap {D : List UInt8 → Option Dc} {vs : List (List UInt8)} {t : Ty} (h : keptB D vs t = false) (k : Nat) : keptB D vs (wrapT k t) = false := by
  unfold wrapT nmT
  split
  · rw [keptB_eq, if_neg (by decide), keptBs, h, Bool.false_and, Bool.and_false]
  · split
    · rw [keptB_eq, if_neg (by decide), keptBs, keptBs, h, Bool.false_and, Bool.and_false, Bool.and_false]
    · rw [keptB_eq, if_neg (by decide), keptBs, h, Bool.false_and, Bool.and_false]
theorem kept_W {D : List UInt8 → Option Dc} {vs : List (List UInt8)} {t : Ty} (h : keptB D vs t = false) : ∀ k, keptB D vs (tyW t k) = false
  | 0 => h
  | k + 1 => kept_wrap (kept_W h k) k
theorem bad_kept (vA c1 c2 c3 : Option Addr) (t t0 : Ty) (ht : t0 ∈ badL) : keptB (bookD (dsR vA c1 c2 c3 t)) [] t0 = false := by
  unfold badL at ht
  simp only [List.mem_cons, List.mem_nil_iff, or_false] at ht
  rcases ht with rfl | rfl | rfl | rfl | rfl | rfl | rfl | rfl | rfl | rfl <;> rfl
theorem res_not (vA c1 c2 c3 : Option Addr) (t0 : Ty) (ht : t0 ∈ badL) (k : Nat) : resT (bookD (dsR vA c1 c2 c3 (tyW t0 k))) 3 (tyW t0 k) = none := by
  unfold resT
  rw [if_neg (by rw [kept_W (bad_kept vA c1 c2 c3 _ t0 ht) k]; decide)]
theorem textF_some {D : List UInt8 → Option Dc} {f i : Nat} {L L' : List (List UInt8)} {tx nm : List UInt8} {d : Dc} (h : L[i]? = some nm) (hd : D nm = some d) (hc : consS D d.vs d.cs L = some L') : textF D (f + 1) i L tx = textF D f (i + 1) L' (addT tx d) := by
  rw [textF, h]
  simp only
  rw [hd]
  simp only [Option.getD_some]
  rw [hc]
theorem textF_none {D : List UInt8 → Option Dc} {f i : Nat} {L : List (List UInt8)} {tx nm : List UInt8} {d : Dc} (h : L[i]? = some nm) (hd : D nm = some d) (hc : consS D d.vs d.cs L = none) : textF D (f + 1) i L tx = none := by
  rw [textF, h]
  simp only
  rw [hd]
  simp only [Option.getD_some]
  rw [hc]
theorem res_in (vA c1 c2 c3 : Option Addr) (t0 : Ty) (ht : t0 ∈ badL) (k : Nat) : resT (bookD (dsR vA c1 c2 c3 (tyW t0 k))) 3 (nmT aN []) = none := by
  have hk := kept_W (bad_kept vA c1 c2 c3 (tyW t0 k) t0 ht) k
  generalize tyW t0 k = t at hk ⊢
  have h0 : keptB (bookD (dsR vA c1 c2 c3 t)) [] (nmT aN []) = true := by rfl
  have h1 : comeL [] (namesT (nmT aN [])) = [aN] := by rfl
  have h2 : consS (bookD (dsR vA c1 c2 c3 t)) [] (decA c2).cs [aN] = some [aN, bN] := by rfl
  have h3 : consS (bookD (dsR vA c1 c2 c3 t)) [] (decB c3 t).cs [aN, bN] = none := by
    show consS (bookD (dsR vA c1 c2 c3 t)) [] [⟨[66], false, tyN⟩, ⟨[67], true, t⟩] [aN, bN] = none
    rw [consS, if_neg (by decide), consS, if_pos rfl, hk]
    rfl
  unfold resT
  rw [if_pos h0, h1, textF_some (nm := aN) (d := decA c2) rfl (book_a ..) h2, textF_none (nm := bN) (d := decB c3 t) rfl (book_b ..) h3]
theorem res_li (vA c1 c2 c3 : Option Addr) (t : Ty) : resT (bookD (dsR vA c1 c2 c3 t)) 3 tyLI = some txL := by rfl
def finB (t : Ty) : Bool := decide (t.nm.length ≤ maxLen) && (sml t && (decide ((namesT t).length < 400000) && (decide ((tyT t).length < 4294967295) && decide ((decT (decB none t)).length < 4294967295))))
theorem fin_W : ∀ x < 10, ∀ k < 6, finB (tyW (badL[x]?.getD tyN) k) = true := by decide +kernel
theorem dok_A (cA : Option Addr) (D : List UInt8 → Option Dc) : Dok D (decA cA) where
  k1 := rfl
  vs := by show 0 ≤ 1000000; decide
  cs := by show 1 ≤ 1000000; decide
  ty := fun c hc hh => by
    have hc : c ∈ ([⟨[65], true, nmT bN []⟩] : List Cn) := hc
    rw [List.mem_singleton.1 hc]
    exact ⟨by decide +kernel, by decide +kernel⟩
  pr := fun c hc hh _ => by
    have hc : c ∈ ([⟨[65], true, nmT bN []⟩] : List Cn) := hc
    rw [List.mem_singleton.1 hc]
    show pr (nmT bN []) = true
    decide +kernel
  tx := by
    show (decT (decA none)).length < 4294967295
    decide +kernel
theorem dok_B (cA : Option Addr) (t : Ty) (D : List UInt8 → Option Dc) (hf : finB t = true) (hk : keptB D [] t = false) : Dok D (decB cA t) := by
  unfold finB at hf
  simp only [Bool.and_eq_true, decide_eq_true_eq] at hf
  obtain ⟨f1, f2, f4, f5, f6⟩ := hf
  refine ⟨rfl, by show 0 ≤ 1000000; decide, by show 2 ≤ 1000000; decide, fun c hc hh => ?_, fun c hc hh h => ?_, f6⟩
  · have hc : c ∈ ([⟨[66], false, tyN⟩, ⟨[67], true, t⟩] : List Cn) := hc
    rcases List.mem_cons.1 hc with rfl | hc
    · cases hh
    · rw [List.mem_singleton.1 hc]; exact ⟨f2, f4⟩
  · have hc : c ∈ ([⟨[66], false, tyN⟩, ⟨[67], true, t⟩] : List Cn) := hc
    rcases List.mem_cons.1 hc with rfl | hc
    · cases hh
    · rw [List.mem_singleton.1 hc] at h
      have h : keptB D [] t = true := h
      rw [hk] at h; cases h
theorem dok_R (vA c1 c2 c3 : Option Addr) (t0 : Ty) (ht : t0 ∈ badL) (k : Nat) (hf : finB (tyW t0 k) = true) : ∀ d ∈ dsR vA c1 c2 c3 (tyW t0 k), d.k = 1 → Dok (bookD (dsR vA c1 c2 c3 (tyW t0 k))) d := fun d hd _ => by
  have hd : d ∈ [listDc vA c1, decA c2, decB c3 (tyW t0 k)] := hd
  simp only [List.mem_cons, List.mem_nil_iff, or_false] at hd
  rcases hd with rfl | rfl | rfl
  · exact dok_L vA c1 _
  · exact dok_A c2 _
  · exact dok_B c3 _ _ hf (kept_W (bad_kept vA c1 c2 c3 _ t0 ht) k)
end Go.Proofs.YtadogebhkldeiaaDoor
