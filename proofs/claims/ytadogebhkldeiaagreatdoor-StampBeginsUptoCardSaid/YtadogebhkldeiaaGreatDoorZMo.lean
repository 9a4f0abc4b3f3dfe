/- stamp: what a type does not come to says nothing, apart from memory; how long texts are. -/
import Derived.Test.YtadogebhkldeiaaGreatDoorZDa
namespace Go.Proofs.YtadogebhkldeiaaGreatDoor
open Go.RowKit Ty
set_option linter.unusedVariables false
set_option linter.unusedSimpArgs false
theorem fold_find : ∀ (ds : List Dc) (D : List UInt8 → Option Dc) (s : List UInt8), ds.foldl put1 D s = match D s with | some e => some e | none => ds.find? (fun d => decide (d.k = 1 ∧ d.nm = s))
  | [], D, s => by
    show D s = _
    cases D s <;> rfl
  | d :: ds, D, s => by
    show ds.foldl put1 (put1 D d) s = _
    rw [fold_find ds (put1 D d) s, put1_at]
    cases hD : D s with
    | some e => rw [if_neg (fun h => by cases h.2.2)]
    | none =>
      by_cases h : d.k = 1 ∧ d.nm = s
      · rw [if_pos ⟨h.1, h.2, rfl⟩, List.find?_cons_of_pos (by simpa using h)]
      · rw [if_neg (fun h2 => h ⟨h2.1, h2.2.1⟩), List.find?_cons_of_neg (by simpa using h)]
theorem bookD_find (ds : List Dc) (s : List UInt8) : bookD ds s = ds.find? (fun d => decide (d.k = 1 ∧ d.nm = s)) := fold_find ds _ s
/-- Those of other names, or none, ahead; others behind. -/
def restD (ds more : List Dc) : List Dc := more.filter fun x => !(bookD ds x.nm).isSome || decide (x.k ≠ 1)
theorem bookD_all {ds more : List Dc} {s : List UInt8} {d : Dc} (h : bookD ds s = some d) : bookD (restD ds more ++ ds ++ more) s = some d := by
  have h1 : (restD ds more).find? (fun d => decide (d.k = 1 ∧ d.nm = s)) = none := by
    rw [List.find?_eq_none]
    intro x hx hp
    have hp : x.k = 1 ∧ x.nm = s := by simpa using hp
    unfold restD at hx
    have hx := (List.mem_filter.1 hx).2
    rw [hp.2, h] at hx
    simp [hp.1] at hx
  rw [bookD_find] at h
  rw [bookD_find, List.append_assoc, List.find?_append, h1, List.find?_append, h]
  rfl
def SubD (D E : List UInt8 → Option Dc) : Prop := ∀ s d, D s = some d → E s = some d
theorem kept_mono {D E : List UInt8 → Option Dc} (h : SubD D E) {vs : List (List UInt8)} : ∀ t : Ty, keptB D vs t = true → keptB E vs t = true := Ty.ind fun k nm n ks ih hk => by
  rw [keptB_eq] at hk ⊢
  by_cases h1 : k = 1
  · rw [if_pos h1] at hk ⊢; exact hk
  · rw [if_neg h1, Bool.and_eq_true] at hk ⊢
    refine ⟨?_, ?_⟩
    · have hk := hk.1
      unfold hdK at hk ⊢
      by_cases h4 : k = 4
      · rw [if_pos h4] at hk ⊢; exact hk
      · rw [if_neg h4] at hk ⊢
        by_cases h2 : k = 2
        · rw [if_pos h2, decide_eq_true_eq] at hk ⊢
          unfold ar at hk ⊢
          split
          · rename_i ho; rw [if_pos ho] at hk; exact hk
          · rename_i ho
            rw [if_neg ho] at hk
            cases hd : D nm with
            | none => rw [hd] at hk; cases hk
            | some d => rw [h nm d hd]; rw [hd] at hk; exact hk
        · rw [if_neg h2] at hk; cases hk
    · have hk := hk.2
      clear h1
      revert ih hk
      generalize ks = l
      intro ih hk
      induction l with
      | nil => rfl
      | cons t l il =>
        rw [keptBs, Bool.and_eq_true] at hk ⊢
        exact ⟨ih t (List.mem_cons_self ..) hk.1, il (fun x hx => ih x (List.mem_cons_of_mem _ hx)) hk.2⟩
def InD (D : List UInt8 → Option Dc) (L : List (List UInt8)) : Prop := ∀ x ∈ L, (D x).isSome = true
theorem comeL_in {D : List UInt8 → Option Dc} : ∀ (ns L : List (List UInt8)), InD D L → (∀ x ∈ ns, (ownN x).2 = false → (D x).isSome = true) → InD D (comeL L ns)
  | [], L, h, _ => h
  | x :: ns, L, h, hn => by
    show InD D (comeL (come1 L x) ns)
    refine comeL_in ns _ ?_ fun y hy => hn y (List.mem_cons_of_mem _ hy)
    unfold come1
    split
    · exact h
    · rename_i e
      simp only [Bool.or_eq_true, decide_eq_true_eq, not_or, Bool.not_eq_true] at e
      intro y hy
      rcases List.mem_append.1 hy with hy | hy
      · exact h y hy
      · rw [List.mem_singleton.1 hy]
        exact hn x (List.mem_cons_self ..) e.1
theorem cons_mono {D E : List UInt8 → Option Dc} (h : SubD D E) {vs : List (List UInt8)} : ∀ (cs : List Cn) (L L' : List (List UInt8)), InD D L → consS D vs cs L = some L' → consS E vs cs L = some L' ∧ InD D L'
  | [], L, L', hi, hc => by
    rw [consS] at hc ⊢
    injection hc with hc
    exact ⟨by rw [hc], hc ▸ hi⟩
  | c :: cs, L, L', hi, hc => by
    rw [consS] at hc ⊢
    by_cases hh : c.has = true
    · rw [if_pos hh] at hc ⊢
      by_cases hk : keptB D vs c.ty = true
      · rw [if_pos hk] at hc
        rw [if_pos (kept_mono h _ hk)]
        exact cons_mono h cs _ _ (comeL_in _ _ hi (kept_names c.ty hk)) hc
      · rw [if_neg hk] at hc; cases hc
    · rw [if_neg hh] at hc ⊢
      exact cons_mono h cs _ _ hi hc
theorem text_mono {D E : List UInt8 → Option Dc} (h : SubD D E) : ∀ (f i : Nat) (L : List (List UInt8)) (tx R : List UInt8), InD D L → textF D f i L tx = some R → ∀ g, f ≤ g → textF E g i L tx = some R
  | 0, _, _, _, _, _, ht, _, _ => by rw [textF] at ht; cases ht
  | f + 1, i, L, tx, R, hi, ht, 0, hg => by omega
  | f + 1, i, L, tx, R, hi, ht, g + 1, hg => by
    rw [textF] at ht ⊢
    cases hn : L[i]? with
    | none => rw [hn] at ht; exact ht
    | some nm =>
      rw [hn] at ht
      simp only at ht ⊢
      obtain ⟨d, hd⟩ := Option.isSome_iff_exists.1 (hi nm (List.mem_of_getElem? hn))
      have e1 : (D nm).getD zDc = d := by rw [hd]; rfl
      have e2 : (E nm).getD zDc = d := by rw [h nm d hd]; rfl
      rw [e1] at ht
      rw [e2]
      cases hc : consS D d.vs d.cs L with
      | none => rw [hc] at ht; cases ht
      | some L' =>
        rw [hc] at ht
        simp only at ht
        obtain ⟨k1, k2⟩ := cons_mono h d.cs L L' hi hc
        rw [k1]
        exact text_mono h f (i + 1) L' _ R k2 ht g (by omega)
theorem res_mono {D E : List UInt8 → Option Dc} (h : SubD D E) {N M : Nat} (hN : N ≤ M) {t : Ty} {R : List UInt8} (hr : resT D N t = some R) : resT E M t = some R := by
  unfold resT at hr ⊢
  by_cases hk : keptB D [] t = true
  · rw [if_pos hk] at hr
    rw [if_pos (kept_mono h t hk)]
    exact text_mono h _ _ _ _ _ (comeL_in _ _ (fun x hx => by cases hx) (kept_names t hk)) hr _ (by omega)
  · rw [if_neg hk] at hr; cases hr
-- how long texts are
mutual
def okT : Ty → Bool
  | .node _ _ n ks => decide (-9223372036854775808 ≤ n ∧ n ≤ 9223372036854775807) && (decide (ks.length ≤ 1000000) && okTs ks)
def okTs : List Ty → Bool
  | [] => true
  | t :: ts => okT t && okTs ts
end
theorem okT_eq (k : Nat) (nm : List UInt8) (n : Int) (ks : List Ty) : okT (.node k nm n ks) = (decide (-9223372036854775808 ≤ n ∧ n ≤ 9223372036854775807) && (decide (ks.length ≤ 1000000) && okTs ks)) := by rw [okT]
theorem okTs_mem : ∀ {ts : List Ty} {t : Ty}, okTs ts = true → t ∈ ts → okT t = true
  | u :: ts, t, h, hm => by
    rw [okTs, Bool.and_eq_true] at h
    rcases List.mem_cons.1 hm with rfl | hm
    · exact h.1
    · exact okTs_mem h.2 hm
theorem okTs_of : ∀ {ts : List Ty}, (∀ t ∈ ts, okT t = true) → okTs ts = true
  | [], _ => by rw [okTs]
  | t :: ts, h => by rw [okTs, h t (List.mem_cons_self ..), okTs_of fun x hx => h x (List.mem_cons_of_mem _ hx)]; rfl
theorem ok_sml : ∀ t : Ty, okT t = true → sml t = true := Ty.ind fun k nm n ks ih h => by
  rw [okT_eq, Bool.and_eq_true, Bool.and_eq_true] at h
  rw [sml_eq, Bool.and_eq_true]
  refine ⟨h.2.1, ?_⟩
  show smls ks = true
  have h3 := h.2.2
  clear h
  revert ih h3
  generalize ks = l
  intro ih h3
  induction l with
  | nil => rw [smls]
  | cons t l il =>
    rw [okTs, Bool.and_eq_true] at h3
    rw [smls, ih t (List.mem_cons_self ..) h3.1, il (fun x hx => ih x (List.mem_cons_of_mem _ hx)) h3.2]; rfl
theorem ok_pr {D : List UInt8 → Option Dc} {vs : List (List UInt8)} : ∀ t : Ty, okT t = true → keptB D vs t = true → pr t = true := Ty.ind fun k nm n ks ih h hk => by
  rw [okT_eq, Bool.and_eq_true, Bool.and_eq_true] at h
  rw [keptB_eq] at hk
  rw [pr_eq]
  show (if k = 1 then decide (-9223372036854775808 ≤ n ∧ n ≤ 9223372036854775807) else (k == 2 || k == 4) && (decide (ks.length ≤ 1000000) && prs ks)) = true
  by_cases h1 : k = 1
  · rw [if_pos h1]; exact h.1
  · rw [if_neg h1, Bool.and_eq_true] at hk
    rw [if_neg h1, Bool.and_eq_true, Bool.and_eq_true]
    refine ⟨?_, h.2.1, ?_⟩
    · have hk := hk.1
      unfold hdK at hk
      by_cases h4 : k = 4
      · subst h4; rfl
      · by_cases h2 : k = 2
        · subst h2; rfl
        · rw [if_neg h4, if_neg h2] at hk; cases hk
    · have h3 := h.2.2
      have hk := hk.2
      clear h
      revert ih h3 hk
      generalize ks = l
      intro ih h3 hk
      induction l with
      | nil => rw [prs]
      | cons t l il =>
        rw [okTs, Bool.and_eq_true] at h3
        rw [keptBs, Bool.and_eq_true] at hk
        rw [prs, ih t (List.mem_cons_self ..) h3.1 hk.1, il (fun x hx => ih x (List.mem_cons_of_mem _ hx)) h3.2 hk.2]; rfl
theorem bT_pos (t : Ty) : 5 ≤ bT t := by rw [bT_eq]; omega
theorem bTs_len : ∀ ts : List Ty, 5 * ts.length ≤ bTs ts
  | [] => by rw [bTs]; exact Nat.le_refl _
  | t :: ts => by
    have := bTs_len ts
    have := bT_pos t
    rw [bTs, List.length_cons]; omega
theorem bTs_mem : ∀ {ts : List Ty} {t : Ty}, t ∈ ts → bT t ≤ bTs ts
  | u :: ts, t, h => by
    rw [bTs]
    rcases List.mem_cons.1 h with rfl | h
    · omega
    · have := bTs_mem h; omega
theorem at_ok {F : Nat → Prop} {w : World} {A : Option Addr} {ts : List Ty} (h : Ty.At F w A ts) : bTs ts ≤ 5000000 → okTs ts = true := by
  induction h with
  | nil A => intro _; rw [okTs]
  | mk b off ts Af cf hF hlt hc hk ih =>
    intro hb
    refine okTs_of fun t ht => ?_
    obtain ⟨r, hr⟩ := List.getElem?_of_mem ht
    have h1 := bTs_mem ht
    have h2 := (hc r t hr).2.1.2.1
    have h3 := ih r t hr (by rw [bT_eq] at h1; omega)
    obtain ⟨k, nm, n, ks⟩ := t
    have h3 : okTs ks = true := h3
    rw [okT_eq, h3]
    have h4 := bTs_len ks
    rw [bT_eq] at h1
    have h1 : nm.length + bTs ks + 5 ≤ bTs ts := h1
    have h2 : -9223372036854775808 ≤ n ∧ n < 9223372036854775808 := h2
    rw [decide_eq_true (show -9223372036854775808 ≤ n ∧ n ≤ 9223372036854775807 by omega), decide_eq_true (show ks.length ≤ 1000000 by omega)]; rfl
theorem te_ok {F : Nat → Prop} {w : World} {e : Te} (h : e.in_ F w) (hb : bT e.t ≤ 5000000) : okT e.t = true := by
  obtain ⟨t, A, c⟩ := e
  have hb : bT t ≤ 5000000 := hb
  have h1 : Ty.At F w A t.ks := h.1
  have h2 : t.ok := h.2.1
  obtain ⟨k, nm, n, ks⟩ := t
  rw [bT_eq] at hb
  have hb : nm.length + bTs ks + 5 ≤ 5000000 := hb
  have h2 := h2.2.1
  have h2 : -9223372036854775808 ≤ n ∧ n < 9223372036854775808 := h2
  show okT (.node k nm n ks) = true
  have h4 := bTs_len ks
  have h5 : okTs ks = true := at_ok h1 (by show bTs ks ≤ 5000000; omega)
  rw [okT_eq, h5, decide_eq_true (show -9223372036854775808 ≤ n ∧ n ≤ 9223372036854775807 by omega), decide_eq_true (show ks.length ≤ 1000000 by omega)]; rfl
theorem names_le : ∀ t : Ty, 5 * (namesT t).length ≤ bT t := Ty.ind fun k nm n ks ih => by
  have hl : 5 * (namesL ks).length ≤ bTs ks := by
    clear n k nm
    induction ks with
    | nil => rw [namesL]; exact Nat.zero_le _
    | cons t l il =>
      have h1 := ih t (List.mem_cons_self ..)
      have h2 := il fun x hx => ih x (List.mem_cons_of_mem _ hx)
      rw [namesL, bTs, List.length_append]; omega
  rw [bT, namesT]
  split
  · rw [List.length_cons]; omega
  · split
    · omega
    · simp
theorem joinT_len (s : List UInt8) : ∀ L : List (List UInt8), (joinT s L).length ≤ (L.map fun x => x.length + s.length).sum
  | [] => by simp [joinT]
  | [x] => by simp [joinT]
  | x :: y :: L => by
    have := joinT_len s (y :: L)
    rw [List.map_cons, List.sum_cons]
    show (x ++ s ++ joinT s (y :: L)).length ≤ _
    rw [List.length_append, List.length_append]
    omega
theorem sum_le_sum {α : Type} (f g : α → Nat) : ∀ l : List α, (∀ x ∈ l, f x ≤ g x) → (l.map f).sum ≤ (l.map g).sum
  | [], _ => Nat.le_refl _
  | x :: l, h => by
    have h1 := h x (List.mem_cons_self ..)
    have h2 := sum_le_sum f g l fun y hy => h y (List.mem_cons_of_mem _ hy)
    rw [List.map_cons, List.map_cons, List.sum_cons, List.sum_cons]; omega
theorem sum_mul {α : Type} (f : α → Nat) (c : Nat) : ∀ l : List α, (l.map fun x => c * f x).sum = c * (l.map f).sum
  | [] => by simp
  | x :: l => by rw [List.map_cons, List.map_cons, List.sum_cons, List.sum_cons, sum_mul f c l, Nat.mul_add]
theorem ty_len : ∀ t : Ty, okT t = true → (tyT t).length + 5 ≤ 8 * bT t := Ty.ind fun k nm n ks ih h => by
  rw [okT_eq, Bool.and_eq_true, Bool.and_eq_true] at h
  have hr : -9223372036854775808 ≤ n ∧ n ≤ 9223372036854775807 := of_decide_eq_true h.1
  have hn := numT_le n hr.1 hr.2
  have hsum : ∀ g : Ty → List UInt8, ∀ s : List UInt8, s.length ≤ 3 → (∀ t ∈ ks, (g t).length ≤ (tyT t).length + 2) → (joinT s (ks.map g)).length ≤ 8 * bTs ks := fun g s hs hg => by
    have h1 := joinT_len s (ks.map g)
    rw [List.map_map] at h1
    have h2 := sum_le_sum ((fun x : List UInt8 => x.length + s.length) ∘ g) (fun t => 8 * bT t) ks (fun t ht => by
      have h3 := ih t ht (okTs_mem h.2.2 ht)
      have h4 := hg t ht
      show (g t).length + s.length ≤ 8 * bT t
      omega)
    rw [sum_mul, ← bTs_sum] at h2
    omega
  have ht := hsum tightT [32, 42, 32] (by decide) (fun t _ => by
    unfold tightT closedT
    split
    · simp
    · omega)
  have ht0 := hsum tightT [] (by decide) (fun t _ => by
    unfold tightT closedT
    split
    · simp
    · omega)
  have hp := hsum tyT [44, 32] (by decide) (fun t _ => by omega)
  rw [bT_eq, tyT_eq]
  show (if k = 1 then (if nm.isEmpty then [39, 116] ++ numT n else nm) else if k = 4 then joinT [32, 42, 32] (ks.map tightT) else if k = 2 then (if ks.length = 0 then [] else if ks.length = 1 then joinT [] (ks.map tightT) ++ [32] else [40] ++ joinT [44, 32] (ks.map tyT) ++ [41, 32]) ++ nm else []).length + 5 ≤ 8 * (nm.length + bTs ks + 5)
  split
  · split
    · rw [List.length_append]; simp only [List.length_cons, List.length_nil]; omega
    · omega
  · split
    · omega
    · split
      · rw [List.length_append]
        split
        · simp only [List.length_nil]; omega
        · split
          · rw [List.length_append]; simp only [List.length_cons, List.length_nil]; omega
          · rw [List.length_append, List.length_append]; simp only [List.length_cons, List.length_nil]; omega
      · simp only [List.length_nil]; omega
theorem dec_len (d : Dc) (h : ∀ c ∈ d.cs, okT c.ty = true) : (decT d).length ≤ 8 * bD d := by
  have h1 := joinT_len [32, 124, 32] (d.cs.map conT)
  rw [List.map_map] at h1
  have h2 := sum_le_sum ((fun x : List UInt8 => x.length + [32, 124, 32].length) ∘ conT) (fun c => 8 * bC c) d.cs (fun c hc => by
    have h3 := ty_len c.ty (h c hc)
    show (conT c).length + 3 ≤ 8 * bC c
    unfold conT bC
    split
    · rw [List.length_append, List.length_append]; simp only [List.length_cons, List.length_nil]; omega
    · omega)
  rw [sum_mul] at h2
  have h3 : ∀ s : List UInt8, s.length ≤ 2 → (joinT s d.vs).length ≤ 8 * (d.vs.map fun s => s.length + 1).sum := fun s hs => by
    have h4 := joinT_len s d.vs
    have h5 := sum_le_sum (fun x : List UInt8 => x.length + s.length) (fun x => 8 * (x.length + 1)) d.vs (fun x _ => by omega)
    rw [sum_mul] at h5
    omega
  have h4 := h3 [] (by decide)
  have h5 := h3 [44, 32] (by decide)
  unfold decT bD varsT
  rw [List.length_append, List.length_append, List.length_append, List.length_append]
  simp only [List.length_cons, List.length_nil]
  split
  · simp only [List.length_nil]; omega
  · split
    · rw [List.length_append]; simp only [List.length_cons, List.length_nil]; omega
    · rw [List.length_append, List.length_append]; simp only [List.length_cons, List.length_nil]; omega
theorem sum_mem {α : Type} (f : α → Nat) : ∀ {l : List α} {x : α}, x ∈ l → f x ≤ (l.map f).sum
  | y :: l, x, h => by
    rw [List.map_cons, List.sum_cons]
    rcases List.mem_cons.1 h with rfl | h
    · omega
    · have := sum_mem f h; omega
theorem len_sum {α : Type} (f : α → Nat) (c : Nat) (hf : ∀ x, c ≤ f x) : ∀ l : List α, c * l.length ≤ (l.map f).sum
  | [] => by simp
  | x :: l => by
    have h1 := hf x
    have h2 := len_sum f c hf l
    rw [List.map_cons, List.sum_cons, List.length_cons, Nat.mul_add]; omega
theorem dc_small {d : Dc} (hb : bD d ≤ 1048576) : d.vs.length ≤ 1048576 ∧ d.cs.length ≤ 1000000 := by
  unfold bD at hb
  have h1 := len_sum (fun s : List UInt8 => s.length + 1) 1 (fun x => by omega) d.vs
  have h2 := len_sum bC 8 (fun c => by unfold bC; have := bT_pos c.ty; omega) d.cs
  omega
theorem dc_ok {d : Dc} {F : Nat → Prop} {w : World} (hK : d.K F w) (hb : bD d ≤ 1048576) : ∀ c ∈ d.cs, okT c.ty = true := fun c hc => by
  obtain ⟨r, hr⟩ := List.getElem?_of_mem hc
  obtain ⟨b, off, A', d', _, _, _, _, hin⟩ := hK.2 r c hr
  have h2 := sum_mem bC hc
  unfold bD at hb
  have h3 : bT c.ty ≤ bC c := by unfold bC; omega
  exact te_ok hin (by show bT c.ty ≤ 5000000; omega)
theorem dok_in {d : Dc} {F : Nat → Prop} {w : World} (D : List UInt8 → Option Dc) (hK : d.K F w) (hb : bD d ≤ 1048576) (hk : d.k = 1) : Dok D d where
  k1 := hk
  vs := by have := (dc_small hb).1; omega
  cs := (dc_small hb).2
  ty := fun c hc _ => by
    have h1 := dc_ok hK hb c hc
    have h2 := sum_mem bC hc
    have h3 := names_le c.ty
    unfold bD at hb
    have h4 : bT c.ty ≤ bC c := by unfold bC; omega
    exact ⟨ok_sml _ h1, by omega⟩
  pr := fun c hc _ h => ok_pr c.ty (dc_ok hK hb c hc) h
  tx := by have := dec_len d (dc_ok hK hb); omega
end Go.Proofs.YtadogebhkldeiaaGreatDoor
