/- cover: rows of patterns and rows of values, apart from memory. -/
import Derived.Test.YtigaondgopahgaaMm
import Derived.Test.YtigaondgopahgaaFt
namespace Go.Proofs.Ytigaondgopahgaa
open Ty
set_option linter.unusedVariables false
set_option linter.unusedSimpArgs false
/-- A value. -/
inductive Vl where
  | node (nm : List UInt8) (n : Int) (ks : List Vl)
namespace Vl
def nm : Vl → List UInt8 | node nm _ _ => nm
def n : Vl → Int | node _ n _ => n
def ks : Vl → List Vl | node _ _ ks => ks
end Vl
mutual
def takes : Ty → Vl → Bool
  | .node k nm n ks, v => if k = 1 ∨ k = 2 then true else if k = 3 then (v.nm.isEmpty && decide (n = v.n)) else if k = 6 then (decide (nm = v.nm) && (decide (ks.length = v.ks.length) && takesL ks v.ks)) else if k = 5 then (decide (ks.length = v.ks.length) && takesL ks v.ks) else false
def takesL : List Ty → List Vl → Bool
  | [], _ => true
  | _ :: _, [] => false
  | p :: ps, v :: vs => takes p v && takesL ps vs
end
theorem takes_eq (p : Ty) (v : Vl) : takes p v = if p.k = 1 ∨ p.k = 2 then true else if p.k = 3 then (v.nm.isEmpty && decide (p.n = v.n)) else if p.k = 6 then (decide (p.nm = v.nm) && (decide (p.ks.length = v.ks.length) && takesL p.ks v.ks)) else if p.k = 5 then (decide (p.ks.length = v.ks.length) && takesL p.ks v.ks) else false := by
  obtain ⟨k, nm, n, ks⟩ := p
  rw [takes]
  rfl
theorem takesL_cons (p : Ty) (ps : List Ty) (v : Vl) (vs : List Vl) : takesL (p :: ps) (v :: vs) = (takes p v && takesL ps vs) := by rw [takesL]
theorem takesL_nil (vs : List Vl) : takesL [] vs = true := by rw [takesL]
theorem takesL_app : ∀ {a b : List Ty} {x y : List Vl}, a.length = x.length → takesL (a ++ b) (x ++ y) = (takesL a x && takesL b y)
  | [], b, [], y, _ => by rw [List.nil_append, List.nil_append, takesL_nil, Bool.true_and]
  | p :: a, b, v :: x, y, h => by
    rw [List.cons_append, List.cons_append, takesL_cons, takesL_cons, takesL_app (by simpa using h), Bool.and_assoc]
theorem takes_wild {p : Ty} (h : p.wild = true) (v : Vl) : takes p v = true := by
  rw [takes_eq, if_pos (by simpa [wild] using h)]
theorem takesL_any : ∀ (n : Nat) (x : List Vl), n = x.length → takesL (List.replicate n any) x = true
  | 0, x, _ => takesL_nil x
  | n + 1, v :: x, h => by rw [List.replicate_succ, takesL_cons, takes_wild rfl, takesL_any n x (by simpa using h), Bool.true_and]
def pFx : Ty := .node 6 [70] 0 []
/-- The sorts of places. -/
inductive So where
  | bool | num | opt | exn
def Pok : So → Ty → Prop
  | .bool, p => p.wild = true ∨ p = pF ∨ p = pT
  | .num, p => p.wild = true ∨ p = num 0 ∨ p = num 1 ∨ p = num 2
  | .opt, p => p.wild = true ∨ p = pNone ∨ ∃ x : Ty, (x.wild = true ∨ x = pF ∨ x = pT) ∧ p = someT x
  | .exn, p => p.wild = true ∨ p = pE ∨ p = pFx
def vF : Vl := .node [102, 97, 108, 115, 101] 0 []
def vT : Vl := .node [116, 114, 117, 101] 0 []
def vn (n : Int) : Vl := .node [] n []
def vNone : Vl := .node [78, 111, 110, 101] 0 []
def vSome (v : Vl) : Vl := .node [83, 111, 109, 101] 0 [v]
def vE : Vl := .node [69] 0 []
def vFx : Vl := .node [70] 0 []
def vAn : Vl := .node [97, 110, 111, 116, 104, 101, 114] 0 []
def vals : So → List Vl
  | .bool => [vF, vT]
  | .num => [vn 0, vn 1, vn 2, vn 99]
  | .opt => [vNone, vSome vF, vSome vT]
  | .exn => [vE, vFx, vAn]
def sub : So → Head → List So
  | .opt, h => if h.many = 1 then [.bool] else []
  | _, _ => []
def RowsOf : List So → List Vl → Prop
  | [], [] => True
  | s :: σ, v :: vs => v ∈ vals s ∧ RowsOf σ vs
  | _, _ => False
def PsOk : List So → List Ty → Prop
  | [], [] => True
  | s :: σ, p :: ps => Pok s p ∧ PsOk σ ps
  | _, _ => False
theorem PsOk.len : ∀ {σ : List So} {ps : List Ty}, PsOk σ ps → ps.length = σ.length
  | [], [], _ => rfl
  | s :: σ, p :: ps, h => by rw [List.length_cons, List.length_cons, h.2.len]
  | [], _ :: _, h => h.elim
  | _ :: _, [], h => h.elim
theorem RowsOf.len : ∀ {σ : List So} {vs : List Vl}, RowsOf σ vs → vs.length = σ.length
  | [], [], _ => rfl
  | s :: σ, v :: vs, h => by rw [List.length_cons, List.length_cons, h.2.len]
  | [], _ :: _, h => h.elim
  | _ :: _, [], h => h.elim
theorem PsOk.app : ∀ {σ τ : List So} {ps qs : List Ty}, PsOk σ ps → PsOk τ qs → PsOk (σ ++ τ) (ps ++ qs)
  | [], τ, [], qs, _, h => h
  | s :: σ, τ, p :: ps, qs, h, k => ⟨h.1, h.2.app k⟩
  | [], _, _ :: _, _, h, _ => h.elim
  | _ :: _, _, [], _, h, _ => h.elim
theorem RowsOf.app : ∀ {σ τ : List So} {ps qs : List Vl}, RowsOf σ ps → RowsOf τ qs → RowsOf (σ ++ τ) (ps ++ qs)
  | [], τ, [], qs, _, h => h
  | s :: σ, τ, p :: ps, qs, h, k => ⟨h.1, h.2.app k⟩
  | [], _, _ :: _, _, h, _ => h.elim
  | _ :: _, _, [], _, h, _ => h.elim
theorem RowsOf.cut : ∀ {σ τ : List So} {us : List Vl}, RowsOf (σ ++ τ) us → ∃ a b, us = a ++ b ∧ RowsOf σ a ∧ RowsOf τ b
  | [], τ, us, h => ⟨[], us, rfl, trivial, h⟩
  | s :: σ, τ, v :: us, h => by
    obtain ⟨a, b, rfl, h1, h2⟩ := RowsOf.cut (σ := σ) h.2
    exact ⟨v :: a, b, rfl, ⟨h.1, h1⟩, h2⟩
  | _ :: _, _, [], h => h.elim
theorem Pok.any (s : So) : Pok s Ty.any := by cases s <;> exact .inl rfl
theorem PsOk.anys : ∀ σ : List So, PsOk σ (List.replicate σ.length Ty.any)
  | [] => trivial
  | s :: σ => ⟨Pok.any s, PsOk.anys σ⟩
/-- What a value of a head has. -/
def split (h : Head) (v : Vl) : Option (List Vl) := if h.k = 3 then (if v.nm = [] ∧ h.n = v.n then some [] else none) else if h.nm = v.nm ∧ h.many = v.ks.length then some v.ks else none
theorem takes_split {s : So} {p : Ty} (h : Pok s p) (hw : p.wild = false) (v : Vl) : takes p v = match split p.head v with | some ks => takesL p.ks ks | none => false := by
  have six : ∀ p : Ty, p.k = 6 → takes p v = match split p.head v with | some ks => takesL p.ks ks | none => false := fun p h6 => by
    rw [takes_eq, if_neg (by omega), if_neg (by omega), if_pos h6]
    unfold split head
    simp only [h6, if_true]
    rw [if_neg (by omega)]
    by_cases h1 : p.nm = v.nm
    · by_cases h2 : p.ks.length = v.ks.length
      · rw [if_pos ⟨h1, h2⟩, decide_eq_true h1, decide_eq_true h2, Bool.true_and, Bool.true_and]
      · rw [if_neg (fun e => h2 e.2), decide_eq_false h2, Bool.false_and, Bool.and_false]
    · rw [if_neg (fun e => h1 e.1), decide_eq_false h1, Bool.false_and]
  have three : ∀ i : Int, takes (num i) v = match split (num i).head v with | some ks => takesL (num i).ks ks | none => false := fun i => by
    rw [takes_eq, if_neg (show ¬((num i).k = 1 ∨ (num i).k = 2) from fun h => by rcases h with h | h <;> cases h), if_pos (show (num i).k = 3 from rfl)]
    show (v.nm.isEmpty && decide (i = v.n)) = match (if v.nm = [] ∧ i = v.n then some [] else none) with | some ks => takesL [] ks | none => false
    by_cases h1 : v.nm = []
    · by_cases h2 : i = v.n
      · rw [if_pos ⟨h1, h2⟩, h1, decide_eq_true h2]; exact (takesL_nil []).symm
      · rw [if_neg (fun e => h2 e.2), decide_eq_false h2, Bool.and_false]
    · rw [if_neg (fun e => h1 e.1)]
      cases hn : v.nm with
      | nil => exact absurd hn h1
      | cons x xs => rfl
  have hn : ∀ {P : Prop}, (p.wild = true ∨ P) → P := fun h => h.resolve_left (by rw [hw]; decide)
  cases s with
  | bool => rcases hn h with rfl | rfl <;> exact six _ rfl
  | num => rcases hn h with rfl | rfl | rfl <;> exact three _
  | opt => rcases hn h with rfl | ⟨x, _, rfl⟩ <;> exact six _ rfl
  | exn => rcases hn h with rfl | rfl <;> exact six _ rfl
/-- The heads of a sort. -/
def hds : So → List Head
  | .bool => [pF.head, pT.head]
  | .num => [(num 0).head, (num 1).head, (num 2).head]
  | .opt => [pNone.head, (someT Ty.any).head]
  | .exn => [pE.head, pFx.head]
theorem Pok.hd {s : So} {p : Ty} (h : Pok s p) (hw : p.wild = false) : p.head ∈ hds s := by
  have hn : ∀ {P : Prop}, (p.wild = true ∨ P) → P := fun h => h.resolve_left (by rw [hw]; decide)
  cases s with
  | bool => rcases hn h with rfl | rfl <;> simp [hds]
  | num => rcases hn h with rfl | rfl | rfl <;> simp [hds]
  | opt =>
    rcases hn h with rfl | ⟨x, _, rfl⟩
    · simp [hds]
    · exact List.mem_cons_of_mem _ (List.mem_singleton.2 rfl)
  | exn => rcases hn h with rfl | rfl <;> simp [hds]
theorem Pok.kids {s : So} {p : Ty} (h : Pok s p) (hw : p.wild = false) : PsOk (sub s p.head) p.ks := by
  have hn : ∀ {P : Prop}, (p.wild = true ∨ P) → P := fun h => h.resolve_left (by rw [hw]; decide)
  cases s with
  | bool => rcases hn h with rfl | rfl <;> exact trivial
  | num => rcases hn h with rfl | rfl | rfl <;> exact trivial
  | opt =>
    rcases hn h with rfl | ⟨x, hx, rfl⟩
    · exact trivial
    · exact ⟨hx, trivial⟩
  | exn => rcases hn h with rfl | rfl <;> exact trivial
theorem sub_len {s : So} {h : Head} (hh : h ∈ hds s) : (sub s h).length = h.many := by
  cases s with
  | bool => simp only [hds, List.mem_cons, List.not_mem_nil, or_false] at hh; rcases hh with rfl | rfl <;> rfl
  | num => simp only [hds, List.mem_cons, List.not_mem_nil, or_false] at hh; rcases hh with rfl | rfl | rfl <;> rfl
  | opt => simp only [hds, List.mem_cons, List.not_mem_nil, or_false] at hh; rcases hh with rfl | rfl <;> rfl
  | exn => simp only [hds, List.mem_cons, List.not_mem_nil, or_false] at hh; rcases hh with rfl | rfl <;> rfl
theorem split_in {s : So} {h : Head} (hh : h ∈ hds s) {v : Vl} (hv : v ∈ vals s) {ks : List Vl} (e : split h v = some ks) : RowsOf (sub s h) ks := by
  cases s with
  | bool =>
    simp only [hds, vals, List.mem_cons, List.not_mem_nil, or_false] at hh hv
    rcases hh with rfl | rfl <;> rcases hv with rfl | rfl <;> first | (cases e; done) | (cases e; exact trivial)
  | num =>
    simp only [hds, vals, List.mem_cons, List.not_mem_nil, or_false] at hh hv
    rcases hh with rfl | rfl | rfl <;> rcases hv with rfl | rfl | rfl | rfl <;> first | (cases e; done) | (cases e; exact trivial)
  | opt =>
    simp only [hds, vals, List.mem_cons, List.not_mem_nil, or_false] at hh hv
    rcases hh with rfl | rfl <;> rcases hv with rfl | rfl | rfl <;> first | (cases e; done) | (cases e; exact trivial) | (cases e; exact ⟨by simp [vals], trivial⟩)
  | exn =>
    simp only [hds, vals, List.mem_cons, List.not_mem_nil, or_false] at hh hv
    rcases hh with rfl | rfl <;> rcases hv with rfl | rfl | rfl <;> first | (cases e; done) | (cases e; exact trivial)
theorem split_of {s : So} {h : Head} (hh : h ∈ hds s) {ks : List Vl} (hk : RowsOf (sub s h) ks) : ∃ v ∈ vals s, split h v = some ks := by
  have nil : ∀ {us : List Vl}, RowsOf [] us → us = [] := fun {us} h => by cases us with
    | nil => rfl
    | cons _ _ => exact h.elim
  cases s with
  | bool =>
    simp only [hds, List.mem_cons, List.not_mem_nil, or_false] at hh
    obtain rfl := nil hk
    rcases hh with rfl | rfl
    · exact ⟨vF, by simp [vals], rfl⟩
    · exact ⟨vT, by simp [vals], rfl⟩
  | num =>
    simp only [hds, List.mem_cons, List.not_mem_nil, or_false] at hh
    obtain rfl := nil hk
    rcases hh with rfl | rfl | rfl
    · exact ⟨vn 0, by simp [vals], rfl⟩
    · exact ⟨vn 1, by simp [vals], rfl⟩
    · exact ⟨vn 2, by simp [vals], rfl⟩
  | opt =>
    simp only [hds, List.mem_cons, List.not_mem_nil, or_false] at hh
    rcases hh with rfl | rfl
    · obtain rfl := nil hk
      exact ⟨vNone, by simp [vals], rfl⟩
    · have hk : RowsOf [.bool] ks := hk
      cases ks with
      | nil => exact hk.elim
      | cons v ks =>
        obtain ⟨h1, h2⟩ := hk
        obtain rfl := nil h2
        simp only [vals, List.mem_cons, List.not_mem_nil, or_false] at h1
        rcases h1 with rfl | rfl
        · exact ⟨vSome vF, by simp [vals], rfl⟩
        · exact ⟨vSome vT, by simp [vals], rfl⟩
  | exn =>
    simp only [hds, List.mem_cons, List.not_mem_nil, or_false] at hh
    obtain rfl := nil hk
    rcases hh with rfl | rfl
    · exact ⟨vE, by simp [vals], rfl⟩
    · exact ⟨vFx, by simp [vals], rfl⟩
theorem split_one {s : So} {h h' : Head} (hh : h ∈ hds s) (hh' : h' ∈ hds s) {v : Vl} (hv : v ∈ vals s) {a b : List Vl} (e : split h v = some a) (e' : split h' v = some b) : h = h' := by
  cases s with
  | bool =>
    simp only [hds, vals, List.mem_cons, List.not_mem_nil, or_false] at hh hh' hv
    rcases hh with rfl | rfl <;> rcases hh' with rfl | rfl <;> first | rfl | (rcases hv with rfl | rfl <;> first | (cases e; done) | (cases e'; done))
  | num =>
    simp only [hds, vals, List.mem_cons, List.not_mem_nil, or_false] at hh hh' hv
    rcases hh with rfl | rfl | rfl <;> rcases hh' with rfl | rfl | rfl <;> first | rfl | (rcases hv with rfl | rfl | rfl | rfl <;> first | (cases e; done) | (cases e'; done))
  | opt =>
    simp only [hds, vals, List.mem_cons, List.not_mem_nil, or_false] at hh hh' hv
    rcases hh with rfl | rfl <;> rcases hh' with rfl | rfl <;> first | rfl | (rcases hv with rfl | rfl | rfl <;> first | (cases e; done) | (cases e'; done))
  | exn =>
    simp only [hds, vals, List.mem_cons, List.not_mem_nil, or_false] at hh hh' hv
    rcases hh with rfl | rfl <;> rcases hh' with rfl | rfl <;> first | rfl | (rcases hv with rfl | rfl | rfl <;> first | (cases e; done) | (cases e'; done))
/-- A column's heads. -/
theorem heads_in {s : So} {C : List Ty} (hC : ∀ p ∈ C, Pok s p) {h : Head} (hh : h ∈ heads C) : h ∈ hds s := by
  obtain ⟨p, hp, hw, rfl⟩ := heads_mem hh
  exact (hC p hp).hd hw
theorem two_list {a b : Head} : ∀ {hs : List Head}, hs.Nodup → (∀ h ∈ hs, h = a ∨ h = b) → hs = [] ∨ hs = [a] ∨ hs = [b] ∨ hs = [a, b] ∨ hs = [b, a]
  | [], _, _ => .inl rfl
  | [x], _, h => by rcases h x List.mem_cons_self with rfl | rfl <;> simp
  | [x, y], hn, h => by
    have hxy : x ≠ y := by rw [List.nodup_cons] at hn; exact fun e => hn.1 (by rw [e]; exact List.mem_singleton.2 rfl)
    rcases h x List.mem_cons_self with rfl | rfl <;> rcases h y (List.mem_cons_of_mem _ List.mem_cons_self) with rfl | rfl
    · exact absurd rfl hxy
    · simp
    · simp
    · exact absurd rfl hxy
  | x :: y :: z :: l, hn, h => by
    exfalso
    rw [List.nodup_cons, List.nodup_cons] at hn
    have h1 : x ≠ y := fun e => hn.1 (by rw [e]; exact List.mem_cons_self)
    have h2 : x ≠ z := fun e => hn.1 (by rw [e]; exact List.mem_cons_of_mem _ List.mem_cons_self)
    have h3 : y ≠ z := fun e => hn.2.1 (by rw [e]; exact List.mem_cons_self)
    have hx := h x List.mem_cons_self
    have hy := h y (List.mem_cons_of_mem _ List.mem_cons_self)
    have hz := h z (List.mem_cons_of_mem _ (List.mem_cons_of_mem _ List.mem_cons_self))
    rcases hx with hx | hx <;> rcases hy with hy | hy <;> rcases hz with hz | hz <;> first | exact h1 (hx.trans hy.symm) | exact h2 (hx.trans hz.symm) | exact h3 (hy.trans hz.symm)
/-- Where heads are whole each value has one; where not some value has none. -/
def Whole (s : So) (hs : List Head) : Prop := if wholeOf infosL hs then ∀ v ∈ vals s, ∃ h ∈ hs, ∃ ks, split h v = some ks else ∃ v ∈ vals s, ∀ h ∈ hs, split h v = none
theorem whole_pair {s : So} {a b : Head} {u v : Vl} (hu : u ∈ vals s) (hv : v ∈ vals s) (h0 : wholeOf infosL [] = false) (ha : wholeOf infosL [a] = false) (hb : wholeOf infosL [b] = false) (hab : wholeOf infosL [a, b] = true) (hba : wholeOf infosL [b, a] = true)
    (ea : split a v = none) (eb : split b u = none) (hall : ∀ x ∈ vals s, (∃ ks, split a x = some ks) ∨ ∃ ks, split b x = some ks) {hs : List Head} (hn : hs.Nodup) (hh : ∀ h ∈ hs, h = a ∨ h = b) : Whole s hs := by
  unfold Whole
  rcases two_list hn hh with rfl | rfl | rfl | rfl | rfl
  · rw [if_neg (by rw [h0]; decide)]
    exact ⟨u, hu, fun h hm => by cases hm⟩
  · rw [if_neg (by rw [ha]; decide)]
    exact ⟨v, hv, fun h hm => by rw [List.mem_singleton.1 hm]; exact ea⟩
  · rw [if_neg (by rw [hb]; decide)]
    exact ⟨u, hu, fun h hm => by rw [List.mem_singleton.1 hm]; exact eb⟩
  · rw [if_pos hab]
    intro x hx
    rcases hall x hx with ⟨ks, e⟩ | ⟨ks, e⟩
    · exact ⟨a, List.mem_cons_self, ks, e⟩
    · exact ⟨b, List.mem_cons_of_mem _ List.mem_cons_self, ks, e⟩
  · rw [if_pos hba]
    intro x hx
    rcases hall x hx with ⟨ks, e⟩ | ⟨ks, e⟩
    · exact ⟨a, List.mem_cons_of_mem _ List.mem_cons_self, ks, e⟩
    · exact ⟨b, List.mem_cons_self, ks, e⟩
theorem wholeV {s : So} {hs : List Head} (hn : hs.Nodup) (hh : ∀ h ∈ hs, h ∈ hds s) : Whole s hs := by
  cases s with
  | bool =>
    refine whole_pair (s := .bool) (a := pF.head) (b := pT.head) (u := vF) (v := vT) (by simp [vals]) (by simp [vals]) (by decide +kernel) (by decide +kernel) (by decide +kernel) (by decide +kernel) (by decide +kernel) rfl rfl (fun x hx => ?_) hn fun h hm => by simpa [hds] using hh h hm
    simp only [vals, List.mem_cons, List.not_mem_nil, or_false] at hx
    rcases hx with rfl | rfl
    · exact .inl ⟨_, rfl⟩
    · exact .inr ⟨_, rfl⟩
  | opt =>
    refine whole_pair (s := .opt) (a := pNone.head) (b := (someT Ty.any).head) (u := vNone) (v := vSome vF) (by simp [vals]) (by simp [vals]) (by decide +kernel) (by decide +kernel) (by decide +kernel) (by decide +kernel) (by decide +kernel) rfl rfl (fun x hx => ?_) hn fun h hm => by simpa [hds] using hh h hm
    simp only [vals, List.mem_cons, List.not_mem_nil, or_false] at hx
    rcases hx with rfl | rfl | rfl
    · exact .inl ⟨_, rfl⟩
    · exact .inr ⟨_, rfl⟩
    · exact .inr ⟨_, rfl⟩
  | num =>
    have hf : wholeOf infosL hs = false := by
      cases hs with
      | nil => rfl
      | cons h hs =>
        have h3 : h.k = 3 := by
          have := hh h List.mem_cons_self
          simp only [hds, List.mem_cons, List.not_mem_nil, or_false] at this
          rcases this with rfl | rfl | rfl <;> rfl
        show (if h.k = 4 ∨ h.k = 5 then true else if h.k = 6 then _ else false) = false
        rw [if_neg (by omega), if_neg (by omega)]
    unfold Whole
    rw [if_neg (by rw [hf]; decide)]
    refine ⟨vn 99, by simp [vals], fun h hm => ?_⟩
    have := hh h hm
    simp only [hds, List.mem_cons, List.not_mem_nil, or_false] at this
    rcases this with rfl | rfl | rfl <;> rfl
  | exn =>
    have hf : wholeOf infosL hs = false := by
      cases hs with
      | nil => rfl
      | cons h hs =>
        have := hh h List.mem_cons_self
        simp only [hds, List.mem_cons, List.not_mem_nil, or_false] at this
        show (if h.k = 4 ∨ h.k = 5 then true else if h.k = 6 then (ofOf infosL h.nm != [101, 120, 110] && (hs.length + 1 == manyOf infosL (ofOf infosL h.nm))) else false) = false
        have e : (ofOf infosL h.nm != [101, 120, 110]) = false := by rcases this with rfl | rfl <;> decide +kernel
        rw [e, Bool.false_and]
        split
        · rename_i h4
          rcases this with rfl | rfl <;> (rcases h4 with h4 | h4 <;> cases h4)
        · split <;> rfl
    unfold Whole
    rw [if_neg (by rw [hf]; decide)]
    refine ⟨vAn, by simp [vals], fun h hm => ?_⟩
    have := hh h hm
    simp only [hds, List.mem_cons, List.not_mem_nil, or_false] at this
    rcases this with rfl | rfl <;> rfl
theorem inhab : ∀ {σ : List So} {q : List Ty}, PsOk σ q → ∃ vs, RowsOf σ vs ∧ takesL q vs = true
  | [], [], _ => ⟨[], trivial, takesL_nil _⟩
  | s :: σ, p :: q, h => by
    obtain ⟨vs, h1, h2⟩ := inhab h.2
    have : ∃ v ∈ vals s, takes p v = true := by
      cases hw : p.wild with
      | true =>
        have : ∃ v, v ∈ vals s := by cases s <;> exact ⟨_, List.mem_cons_self⟩
        obtain ⟨v, hv⟩ := this
        exact ⟨v, hv, takes_wild hw v⟩
      | false =>
        have hk := h.1.kids hw
        have hh := h.1.hd hw
        have hkk : ∃ ks, RowsOf (sub s p.head) ks ∧ takesL p.ks ks = true := by
          have hn : ∀ {P : Prop}, (p.wild = true ∨ P) → P := fun h => h.resolve_left (by rw [hw]; decide)
          cases s with
          | bool => exact ⟨[], trivial, by rcases hn h.1 with rfl | rfl <;> exact takesL_nil _⟩
          | num => exact ⟨[], trivial, by rcases hn h.1 with rfl | rfl | rfl <;> exact takesL_nil _⟩
          | exn => exact ⟨[], trivial, by rcases hn h.1 with rfl | rfl <;> exact takesL_nil _⟩
          | opt =>
            rcases hn h.1 with rfl | ⟨x, hx, rfl⟩
            · exact ⟨[], trivial, takesL_nil _⟩
            · have hd : ∃ v ∈ vals .bool, takes x v = true := by
                rcases hx with hx | rfl | rfl
                · exact ⟨vF, by simp [vals], takes_wild hx _⟩
                · exact ⟨vF, by simp [vals], by decide +kernel⟩
                · exact ⟨vT, by simp [vals], by decide +kernel⟩
              obtain ⟨v, hv, ht⟩ := hd
              exact ⟨[v], ⟨hv, trivial⟩, by show takesL [x] [v] = true; rw [takesL_cons, ht, takesL_nil]; rfl⟩
        obtain ⟨ks, hks, ht⟩ := hkk
        obtain ⟨v, hv, e⟩ := split_of hh hks
        exact ⟨v, hv, by rw [takes_split h.1 hw, e]; exact ht⟩
    obtain ⟨v, hv, ht⟩ := this
    exact ⟨v :: vs, ⟨hv, h1⟩, by rw [takesL_cons, ht, h2]; rfl⟩
  | [], _ :: _, h => h.elim
  | _ :: _, [], h => h.elim
/-- A row behind a value of a head. -/
theorem openedV {s : So} {σ : List So} {r : List Ty} (hr : PsOk (s :: σ) r) {h : Head} (hh : h ∈ hds s) {v : Vl} (hv : v ∈ vals s) {ks : List Vl} (e : split h v = some ks) (vs : List Vl) : takesL r (v :: vs) = match opened h r with | some r' => takesL r' (ks ++ vs) | none => false := by
  cases r with
  | nil => exact hr.elim
  | cons p r =>
    obtain ⟨hp, hr⟩ := hr
    have hkl : ks.length = h.many := by rw [(split_in hh hv e).len, sub_len hh]
    rw [takesL_cons, opened_cons]
    cases hw : p.wild with
    | true =>
      simp only [if_true]
      rw [takesL_app (by rw [List.length_replicate, hkl]), takesL_any _ _ hkl.symm, takes_wild hw]
    | false =>
      simp only [Bool.false_eq_true, if_false]
      by_cases hph : p.head = h
      · rw [if_pos hph]
        simp only
        rw [takes_split hp hw, hph, e]
        have hl : p.ks.length = ks.length := by rw [hkl, ← hph]; rfl
        rw [takesL_app hl]
      · rw [if_neg hph]
        simp only
        rw [takes_split hp hw]
        cases e2 : split p.head v with
        | none => rfl
        | some b => exact absurd (split_one (hp.hd hw) hh hv e2 e) hph
theorem restV {s : So} {σ : List So} {r : List Ty} (hr : PsOk (s :: σ) r) {v : Vl} (hno : ∀ p, r.head? = some p → p.wild = false → split p.head v = none) (vs : List Vl) : takesL r (v :: vs) = match rest r with | some r' => takesL r' vs | none => false := by
  cases r with
  | nil => exact hr.elim
  | cons p r =>
    obtain ⟨hp, hr⟩ := hr
    rw [takesL_cons, rest_cons]
    cases hw : p.wild with
    | true => simp only [if_true]; rw [takes_wild hw, Bool.true_and]
    | false =>
      simp only [Bool.false_eq_true, if_false]
      rw [takes_split hp hw, hno p rfl hw]
      rfl
theorem openedOk {s : So} {σ : List So} {r r' : List Ty} (hr : PsOk (s :: σ) r) {h : Head} (hh : h ∈ hds s) (e : opened h r = some r') : PsOk (sub s h ++ σ) r' := by
  cases r with
  | nil => cases e
  | cons p r =>
    obtain ⟨hp, hr⟩ := hr
    rw [opened_cons] at e
    cases hw : p.wild with
    | true =>
      rw [hw] at e
      simp only [if_true] at e
      cases e
      have := PsOk.anys (sub s h)
      rw [sub_len hh] at this
      exact this.app hr
    | false =>
      rw [hw] at e
      simp only [Bool.false_eq_true, if_false] at e
      split at e
      · rename_i hph
        cases e
        have := hp.kids hw
        rw [hph] at this
        exact this.app hr
      · cases e
theorem restOk {s : So} {σ : List So} {r r' : List Ty} (hr : PsOk (s :: σ) r) (e : rest r = some r') : PsOk σ r' := by
  cases r with
  | nil => cases e
  | cons p r =>
    rw [rest_cons] at e
    split at e
    · cases e; exact hr.2
    · cases e
/-- What is of use takes what is not taken. -/
theorem useful_vals : ∀ (m : Nat) (σ : List So) (rows : List (List Ty)) (q : List Ty), wtss rows + wts q + q.length < m → PsOk σ q → (∀ r ∈ rows, PsOk σ r) → (useful infosL rows q = true ↔ ∃ vs, RowsOf σ vs ∧ takesL q vs = true ∧ ∀ r ∈ rows, takesL r vs = false) := by
  intro m
  induction m with
  | zero => intro _ _ _ h; omega
  | succ m ih =>
    intro σ rows q hm hq hr
    cases rows with
    | nil =>
      rw [useful_nil]
      obtain ⟨vs, h1, h2⟩ := inhab hq
      exact ⟨fun _ => ⟨vs, h1, h2, fun r hr => by cases hr⟩, fun _ => rfl⟩
    | cons r rows =>
      cases q with
      | nil =>
        rw [useful_none]
        refine ⟨(fun h => by cases h), fun ⟨vs, h1, _, h3⟩ => ?_⟩
        have h4 := h3 r List.mem_cons_self
        have hlr := (hr r List.mem_cons_self).len
        have hlq := hq.len
        have : r = [] := List.eq_nil_of_length_eq_zero (by rw [hlr, ← hlq]; rfl)
        rw [this, takesL_nil] at h4
        cases h4
      | cons p q =>
        cases σ with
        | nil => exact hq.elim
        | cons s σ =>
        obtain ⟨hp, hq⟩ := hq
        rw [wts, List.length_cons] at hm
        have hor : ∀ h ∈ hds s, ∀ r' ∈ (r :: rows).filterMap (opened h), PsOk (sub s h ++ σ) r' := fun h hh r' hr' => by
          obtain ⟨r0, h0, e⟩ := List.mem_filterMap.1 hr'
          exact openedOk (hr r0 h0) hh e
        have none_of : ∀ h ∈ hds s, ∀ v ∈ vals s, ∀ ks, split h v = some ks → ∀ vs, ((∀ r' ∈ (r :: rows).filterMap (opened h), takesL r' (ks ++ vs) = false) ↔ ∀ r0 ∈ r :: rows, takesL r0 (v :: vs) = false) := fun h hh v hv ks e vs => by
          constructor
          · intro h3 r0 h0
            rw [openedV (hr r0 h0) hh hv e vs]
            cases eo : opened h r0 with
            | none => rfl
            | some r' => exact h3 r' (List.mem_filterMap.2 ⟨r0, h0, eo⟩)
          · intro h3 r' hr'
            obtain ⟨r0, h0, eo⟩ := List.mem_filterMap.1 hr'
            have := h3 r0 h0
            rw [openedV (hr r0 h0) hh hv e vs, eo] at this
            exact this
        cases hw : p.wild with
        | false =>
          have hh := hp.hd hw
          rw [useful_tame _ hw, ih (sub s p.head ++ σ) _ _ (by
            have := wtss_opened p.head (r :: rows)
            rw [wts_append, List.length_append]
            rw [wt_tame hw] at hm
            omega) ((hp.kids hw).app hq) (hor _ hh)]
          constructor
          · rintro ⟨us, h1, h2, h3⟩
            obtain ⟨ks, vs, rfl, hks, hvs⟩ := h1.cut
            obtain ⟨v, hv, e⟩ := split_of hh hks
            rw [takesL_app (by rw [hks.len, sub_len hh]; rfl)] at h2
            refine ⟨v :: vs, ⟨hv, hvs⟩, ?_, (none_of _ hh v hv ks e vs).1 h3⟩
            rw [takesL_cons, takes_split hp hw, e]
            exact h2
          · rintro ⟨us, h1, h2, h3⟩
            cases us with
            | nil => exact h1.elim
            | cons v vs =>
              obtain ⟨hv, hvs⟩ := h1
              rw [takesL_cons, takes_split hp hw] at h2
              cases e : split p.head v with
              | none => rw [e] at h2; cases h2
              | some ks =>
                rw [e] at h2
                have hks := split_in hh hv e
                exact ⟨ks ++ vs, hks.app hvs, by rw [takesL_app (by rw [hks.len, sub_len hh]; rfl)]; exact h2, (none_of _ hh v hv ks e vs).2 h3⟩
        | true =>
          rw [wt_wild hw] at hm
          have hC : ∀ x ∈ (r :: rows).filterMap List.head?, Pok s x := fun x hx => by
            obtain ⟨r0, h0, e⟩ := List.mem_filterMap.1 hx
            have := hr r0 h0
            cases r0 with
            | nil => cases e
            | cons y r0 => cases e; exact this.1
          have hin : ∀ h ∈ heads ((r :: rows).filterMap List.head?), h ∈ hds s := fun h hh => heads_in hC hh
          have hW := wholeV (heads_nodup ((r :: rows).filterMap List.head?)) hin
          unfold Whole at hW
          cases hwh : wholeOf infosL (heads ((r :: rows).filterMap List.head?)) with
          | true =>
            rw [hwh, if_pos rfl] at hW
            rw [useful_whole _ hw _ _ _ hwh, List.any_eq_true]
            have hany : ∀ h ∈ heads ((r :: rows).filterMap List.head?), (useful infosL ((r :: rows).filterMap (opened h)) (List.replicate h.many Ty.any ++ q) = true ↔ ∃ us, RowsOf (sub s h ++ σ) us ∧ takesL (List.replicate h.many Ty.any ++ q) us = true ∧ ∀ r' ∈ (r :: rows).filterMap (opened h), takesL r' us = false) := fun h hh => by
              refine ih _ _ _ ?_ ?_ (hor h (hin h hh))
              · have := wtss_opened_lt hh
                rw [wts_append, wts_any, List.length_append, List.length_replicate]
                omega
              · have := PsOk.anys (sub s h)
                rw [sub_len (hin h hh)] at this
                exact this.app hq
            constructor
            · rintro ⟨h, hh, hu⟩
              obtain ⟨us, h1, h2, h3⟩ := (hany h hh).1 hu
              obtain ⟨ks, vs, rfl, hks, hvs⟩ := h1.cut
              obtain ⟨v, hv, e⟩ := split_of (hin h hh) hks
              have hl : (List.replicate h.many Ty.any).length = ks.length := by rw [List.length_replicate, hks.len, sub_len (hin h hh)]
              rw [takesL_app hl, Bool.and_eq_true] at h2
              exact ⟨v :: vs, ⟨hv, hvs⟩, by rw [takesL_cons, takes_wild hw, h2.2]; rfl, (none_of _ (hin h hh) v hv ks e vs).1 h3⟩
            · rintro ⟨us, h1, h2, h3⟩
              cases us with
              | nil => exact h1.elim
              | cons v vs =>
                obtain ⟨hv, hvs⟩ := h1
                obtain ⟨h, hh, ks, e⟩ := hW v hv
                have hks := split_in (hin h hh) hv e
                rw [takesL_cons, takes_wild hw, Bool.true_and] at h2
                have hl : (List.replicate h.many Ty.any).length = ks.length := by rw [List.length_replicate, hks.len, sub_len (hin h hh)]
                exact ⟨h, hh, (hany h hh).2 ⟨ks ++ vs, hks.app hvs, by rw [takesL_app hl, takesL_any _ _ (by rw [← hl, List.length_replicate]), h2]; rfl, (none_of _ (hin h hh) v hv ks e vs).2 h3⟩⟩
          | false =>
            rw [hwh, if_neg (by decide)] at hW
            obtain ⟨v, hv, hno⟩ := hW
            have hhd : ∀ r0 ∈ r :: rows, ∀ x, r0.head? = some x → x.wild = false → x.head ∈ heads ((r :: rows).filterMap List.head?) := fun r0 h0 x hx hwx => (heads_mem_iff _ _).2 ⟨x, List.mem_filterMap.2 ⟨r0, h0, hx⟩, hwx, rfl⟩
            rw [useful_rest _ hw _ _ _ hwh, ih σ _ _ (by have := wtss_rest (r :: rows); omega) hq (fun r' hr' => by
              obtain ⟨r0, h0, e⟩ := List.mem_filterMap.1 hr'
              exact restOk (hr r0 h0) e)]
            constructor
            · rintro ⟨vs, h1, h2, h3⟩
              refine ⟨v :: vs, ⟨hv, h1⟩, by rw [takesL_cons, takes_wild hw, h2]; rfl, fun r0 h0 => ?_⟩
              rw [restV (hr r0 h0) (fun x hx hwx => hno _ (hhd r0 h0 x hx hwx)) vs]
              cases eo : rest r0 with
              | none => rfl
              | some r' => exact h3 r' (List.mem_filterMap.2 ⟨r0, h0, eo⟩)
            · rintro ⟨us, h1, h2, h3⟩
              cases us with
              | nil => exact h1.elim
              | cons u vs =>
                obtain ⟨hu, hvs⟩ := h1
                rw [takesL_cons, takes_wild hw, Bool.true_and] at h2
                refine ⟨vs, hvs, h2, fun r' hr' => ?_⟩
                obtain ⟨r0, h0, eo⟩ := List.mem_filterMap.1 hr'
                have := h3 r0 h0
                cases r0 with
                | nil => cases eo
                | cons y r0 =>
                  rw [rest_cons] at eo
                  split at eo
                  · rename_i hy
                    cases eo
                    rw [takesL_cons, takes_wild hy, Bool.true_and] at this
                    exact this
                  · cases eo
end Go.Proofs.Ytigaondgopahgaa
