/- cover: fewer rows take no more, apart from memory. -/
import Derived.Test.YtigaondgopahgaaMl
namespace Go.Proofs.Ytigaondgopahgaa
open Ty
set_option linter.unusedVariables false
set_option linter.unusedSimpArgs false
/-- Rows behind the same wild ones. -/
theorem useful_strip (l : List Inf) (q : List Ty) : ∀ (m : Nat) (R : List (List Ty)), useful l (R.map fun r => List.replicate m any ++ r) (List.replicate m any ++ q) = useful l R q := by
  intro m
  induction m with
  | zero => intro R; simp
  | succ m ih =>
    intro R
    cases R with
    | nil => rw [List.map_nil, useful_nil, useful_nil]
    | cons r R =>
      have e : ((r :: R).map fun r => List.replicate (m + 1) any ++ r) = (any :: (List.replicate m any ++ r)) :: R.map fun r => List.replicate (m + 1) any ++ r := rfl
      have hh : ∀ S : List (List Ty), (S.map fun r => List.replicate (m + 1) any ++ r).filterMap List.head? = S.map fun _ => any := fun S => by
        induction S with
        | nil => rfl
        | cons s S ih => rw [List.map_cons, List.filterMap_cons, ih]; rfl
      have hr : ∀ S : List (List Ty), (S.map fun r => List.replicate (m + 1) any ++ r).filterMap rest = S.map fun r => List.replicate m any ++ r := fun S => by
        induction S with
        | nil => rfl
        | cons s S ih => rw [List.map_cons, List.filterMap_cons, ih]; rfl
      have hw : wholeOf l (heads (((r :: R).map fun r => List.replicate (m + 1) any ++ r).filterMap List.head?)) = false := by
        rw [hh]
        have : heads ((r :: R).map fun _ => any) = [] := by
          cases hd : heads ((r :: R).map fun _ => any) with
          | nil => rfl
          | cons x xs =>
            obtain ⟨p, hp, hw, _⟩ := heads_mem (h := x) (by rw [hd]; exact List.mem_cons_self)
            obtain ⟨_, _, rfl⟩ := List.mem_map.1 hp
            cases hw
        rw [this]; rfl
      rw [e] at hw ⊢
      have e2 : List.replicate (m + 1) any ++ q = any :: (List.replicate m any ++ q) := rfl
      rw [e2, useful_rest l (p := any) rfl _ _ _ hw, ← e, hr, ih]
theorem snoc_ind {α : Type} {P : List α → Prop} (h0 : P []) (h1 : ∀ l x, P l → P (l ++ [x])) (l : List α) : P l := by
  have key : ∀ r : List α, P r.reverse := by
    intro r
    induction r with
    | nil => exact h0
    | cons x r ih => rw [List.reverse_cons]; exact h1 _ _ ih
  have := key l.reverse
  rwa [List.reverse_reverse] at this
theorem nodup_le {α : Type} [DecidableEq α] : ∀ (a b : List α), a.Nodup → (∀ x ∈ a, x ∈ b) → a.length ≤ b.length
  | [], b, _, _ => Nat.zero_le _
  | x :: a, b, hn, hs => by
    rw [List.nodup_cons] at hn
    have hx := hs x List.mem_cons_self
    have := nodup_le a (b.erase x) hn.2 fun y hy => (List.mem_erase_of_ne (fun e => hn.1 (by rw [← e]; exact hy))).2 (hs y (List.mem_cons_of_mem _ hy))
    rw [List.length_erase_of_mem hx] at this
    have h0 := List.length_pos_of_mem hx
    rw [List.length_cons]
    omega
theorem nodup_all {α : Type} [DecidableEq α] {a b : List α} (hn : a.Nodup) (hs : ∀ x ∈ a, x ∈ b) (hl : b.length ≤ a.length) : ∀ y ∈ b, y ∈ a := fun y hy => by
  refine Classical.byContradiction fun h => ?_
  have := nodup_le (y :: a) b (List.nodup_cons.2 ⟨h, hn⟩) fun x hx => by
    rcases List.mem_cons.1 hx with rfl | hx
    · exact hy
    · exact hs x hx
  rw [List.length_cons] at this
  omega
theorem inf_firsts (s : List UInt8) (l : List Inf) : inf (firsts l) s = inf l s := by
  induction l using snoc_ind with
  | h0 => rfl
  | h1 l i ih =>
    rw [firsts_snoc]
    cases h : (inf l i.nm).isSome with
    | true => rw [firsts_any, h, if_pos rfl, ih, inf_old h]
    | false =>
      rw [firsts_any, h]
      simp only [Bool.false_eq_true, if_false]
      rw [inf_snoc, inf_snoc, ih]
theorem firsts_has {l : List Inf} {s d : List UInt8} (h : (inf l s).isSome = true) (hd : ofOf l s = d) : s ∈ ((firsts l).filter fun i => i.of == d).map Inf.nm := by
  cases e : inf l s with
  | none => rw [e] at h; cases h
  | some i =>
    have e2 : inf (firsts l) s = some i := by rw [inf_firsts, e]
    have hm := List.mem_of_find?_eq_some e2
    have hp := List.find?_some e2
    unfold ofOf at hd
    rw [e] at hd
    refine List.mem_map.2 ⟨i, List.mem_filter.2 ⟨hm, ?_⟩, by simpa using hp⟩
    simpa using hd
/-! The heads of a place that fits. -/
theorem col_same {l : List Inf} {c : List Ty} (hf : fit l c = true) {p q : Ty} (hp : p ∈ c) (hq : q ∈ c) (wp : p.wild = false) (wq : q.wild = false) : sort l p = sort l q := by
  rw [fit_eq, Bool.and_eq_true, Bool.and_eq_true] at hf
  have h := hf.1.2
  rw [sorted_def] at h
  cases e : c.filter tame with
  | nil =>
    have : p ∈ c.filter tame := List.mem_filter.2 ⟨hp, by simp [tame, wp]⟩
    rw [e] at this; cases this
  | cons x xs =>
    rw [e] at h
    have key : ∀ y, y ∈ c → y.wild = false → sort l y = sort l x := fun y hy wy => by
      have : y ∈ c.filter tame := List.mem_filter.2 ⟨hy, by simp [tame, wy]⟩
      rw [e] at this
      rcases List.mem_cons.1 this with rfl | h2
      · rfl
      · have := List.all_eq_true.1 h y h2
        simpa using this
    rw [key p hp wp, key q hq wq]
theorem col_right {l : List Inf} {c : List Ty} (hf : fit l c = true) {p : Ty} (hp : p ∈ c) : right l p = true := by
  rw [fit_eq, Bool.and_eq_true, Bool.and_eq_true] at hf
  exact List.all_eq_true.1 hf.1.1 p hp
theorem kidsAt_mem {h : Head} {k : Nat} {ps : List Ty} {x : Ty} : x ∈ kidsAt h k ps ↔ ∃ p ∈ ps, p.wild = false ∧ p.head = h ∧ p.ks[k]? = some x := by
  unfold kidsAt
  rw [List.mem_filterMap]
  constructor
  · rintro ⟨p, hp, e⟩
    cases hw : p.wild with
    | true => rw [hw] at e; simp at e
    | false =>
      rw [hw] at e
      simp only [Bool.false_eq_true, if_false] at e
      split at e
      · rename_i hh; exact ⟨p, hp, hw, hh, e⟩
      · cases e
  · rintro ⟨p, hp, hw, hh, e⟩
    exact ⟨p, hp, by rw [hw, hh]; simpa using e⟩
theorem fit_set (l : List Inf) : ∀ (n : Nat) (ps qs : List Ty), partss ps ≤ n → (∀ q ∈ qs, q.wild = false → q ∈ ps) → fit l ps = true → fit l qs = true := by
  intro n
  induction n with
  | zero =>
    intro ps qs hn hs hf
    have hp : ps = [] := by cases ps with
      | nil => rfl
      | cons p ps => have := parts_eq p; rw [partss] at hn; omega
    subst hp
    exact fit_sub l 0 [] qs (Nat.le_refl _) (by
      have : qs.filter tame = [] := List.filter_eq_nil_iff.2 fun q hq ht => by
        have hw : q.wild = false := by unfold tame at ht; simpa using ht
        cases hs q hq hw
      rw [this]; exact List.Sublist.slnil) hf
  | succ n ih =>
    intro ps qs hn hs hf
    have hf0 := hf
    rw [fit_eq, Bool.and_eq_true, Bool.and_eq_true] at hf
    rw [fit_eq, Bool.and_eq_true, Bool.and_eq_true]
    refine ⟨⟨List.all_eq_true.2 fun q hq => ?_, ?_⟩, ?_⟩
    · cases hw : q.wild with
      | true => exact right_wild hw
      | false => exact col_right hf0 (hs q hq hw)
    · rw [sorted_def]
      cases hq : qs.filter tame with
      | nil => rfl
      | cons y ys =>
        show List.all _ _ = true
        rw [List.all_eq_true]
        intro z hz
        have key : ∀ z, z ∈ qs.filter tame → z ∈ ps ∧ z.wild = false := fun z hz => by
          obtain ⟨h1, h2⟩ := List.mem_filter.1 hz
          have hw : z.wild = false := by unfold tame at h2; simpa using h2
          exact ⟨hs z h1 hw, hw⟩
        obtain ⟨a1, a2⟩ := key z (by rw [hq]; exact List.mem_cons_of_mem _ hz)
        obtain ⟨b1, b2⟩ := key y (by rw [hq]; exact List.mem_cons_self)
        simp [col_same hf0 a1 b1 a2 b2]
    · rw [List.all_eq_true]
      intro h hh
      rw [List.all_eq_true]
      intro k hk
      obtain ⟨q, hq, hw, he⟩ := heads_mem hh
      have hhp : h ∈ heads ps := (heads_mem_iff ps h).2 ⟨q, hs q hq hw, hw, he⟩
      have h4 := List.all_eq_true.1 (List.all_eq_true.1 hf.2 h hhp) k hk
      have hlt := partss_kidsAt_lt k hhp
      refine ih (kidsAt h k ps) (kidsAt h k qs) (by omega) (fun x hx _ => ?_) h4
      obtain ⟨p, hp, wp, e1, e2⟩ := kidsAt_mem.1 hx
      exact kidsAt_mem.2 ⟨p, hs p hp wp, wp, e1, e2⟩
theorem right6 {l : List Inf} {p : Ty} (h : right l p = true) (h6 : p.k = 6) : p.ks.length = if hasOf l p.nm then 1 else 0 := by
  unfold right at h
  rw [if_neg (by omega), if_neg (by omega), if_neg (by omega), if_pos h6] at h
  cases hh : hasOf l p.nm with
  | true => rw [hh] at h; simpa using h
  | false => rw [hh] at h; simpa using h
/-- No more heads than constructors. -/
theorem heads_count {l : List Inf} {c : List Ty} (hf : fit l c = true) (hn : ∀ p ∈ c, named l p = true) {p : Ty} (hp : p ∈ c) (wp : p.wild = false) (h6 : p.k = 6) : (heads c).length ≤ manyOf l (ofOf l p.nm) := by
  have hall : ∀ h ∈ heads c, h.k = 6 ∧ h.n = 0 ∧ h.many = (if hasOf l h.nm then 1 else 0) ∧ ofOf l h.nm = ofOf l p.nm ∧ (inf l h.nm).isSome = true := fun h hh => by
    obtain ⟨q, hq, wq, rfl⟩ := heads_mem hh
    have hs := col_same hf hq hp wq wp
    have hk : q.k = 6 := by have := congrArg Head.k hs; unfold sort at this; simp only at this; omega
    have hof := congrArg Head.nm hs
    unfold sort at hof
    simp only [hk, h6, if_true] at hof
    have hr := right6 (col_right hf hq) hk
    have hnq := hn q hq
    rw [named_eq, Bool.and_eq_true] at hnq
    have hin := hnq.1
    rw [decide_eq_true hk] at hin
    unfold Ty.head
    simp only [hk, if_true]
    refine ⟨trivial, by simp, hr, hof, ?_⟩
    cases hi : inf l q.nm with
    | none => rw [hi] at hin; simp at hin
    | some i => rfl
  unfold manyOf
  have hnd := heads_nodup c
  -- each head has a first of its own
  have hmap : ((heads c).map Head.nm).Nodup := by
    rw [List.nodup_iff_pairwise_ne] at hnd ⊢
    rw [List.pairwise_map]
    refine List.Pairwise.imp_of_mem (fun {a b} ha hb hab e => hab ?_) hnd
    obtain ⟨a1, a2, a3, _, _⟩ := hall a ha
    obtain ⟨b1, b2, b3, _, _⟩ := hall b hb
    obtain ⟨ak, an, ai, am⟩ := a
    obtain ⟨bk, bn, bi, bm⟩ := b
    simp only at e a1 a2 a3 b1 b2 b3
    subst e
    rw [a1, b1, a2, b2, a3, b3]
  have hsub : ∀ s ∈ (heads c).map Head.nm, s ∈ ((firsts l).filter fun i => i.of == ofOf l p.nm).map Inf.nm := fun s hs => by
    obtain ⟨h, hh, rfl⟩ := List.mem_map.1 hs
    obtain ⟨_, _, _, h4, h5⟩ := hall h hh
    exact firsts_has h5 h4
  have := nodup_le _ _ hmap hsub
  rwa [List.length_map, List.length_map] at this
/-- Where the heads of fewer are all, those of more are, and they are the same. -/
theorem whole_sub {l : List Inf} {c c' : List Ty} (hf : fit l c = true) (hn : ∀ p ∈ c, named l p = true) (hs : c'.Sublist c) (hw : wholeOf l (heads c') = true) : wholeOf l (heads c) = true ∧ ∀ h ∈ heads c, h ∈ heads c' := by
  have hsub : ∀ h ∈ heads c', h ∈ heads c := fun h hh => by
    obtain ⟨p, hp, hw, he⟩ := heads_mem hh
    exact (heads_mem_iff c h).2 ⟨p, hs.subset hp, hw, he⟩
  cases h' : heads c' with
  | nil => rw [h'] at hw; cases hw
  | cons x xs =>
    rw [h'] at hw
    have hx' : x ∈ heads c' := by rw [h']; exact List.mem_cons_self
    obtain ⟨p, hp', wp, hpx⟩ := heads_mem hx'
    have hp := hs.subset hp'
    have hxc := hsub x hx'
    have hk : ∀ q ∈ c, q.wild = false → sort l q = sort l p := fun q hq wq => col_same hf hq hp wq wp
    have hxk : x.k = p.k := by rw [← hpx]; rfl
    have hw2 : (if x.k = 4 ∨ x.k = 5 then true else if x.k = 6 then (ofOf l x.nm != [101, 120, 110] && (xs.length + 1 == manyOf l (ofOf l x.nm))) else false) = true := hw
    cases hc : heads c with
    | nil => rw [hc] at hxc; cases hxc
    | cons y ys =>
      have hyc : y ∈ heads c := by rw [hc]; exact List.mem_cons_self
      obtain ⟨q, hq, wq, hqy⟩ := heads_mem hyc
      have hsq := hk q hq wq
      have hqk : q.k = p.k := congrArg Head.k hsq
      have hyk : y.k = p.k := by rw [← hqy]; exact hqk
      by_cases h45 : x.k = 4 ∨ x.k = 5
      · refine ⟨by show (if y.k = 4 ∨ y.k = 5 then true else _) = true; rw [if_pos (by omega)], fun h hh => ?_⟩
        rw [← hc] at hh
        obtain ⟨r, hr, wr, hrh⟩ := heads_mem hh
        have hsr := hk r hr wr
        have hrk : r.k = p.k := congrArg Head.k hsr
        have : h = x := by
          rw [← hrh, ← hpx]
          have hmany : r.ks.length = p.ks.length := by
            rcases h45 with h4 | h5
            · have e1 := col_right hf hr
              have e2 := col_right hf hp
              unfold right at e1 e2
              rw [if_neg (by omega), if_pos (by omega)] at e1 e2
              rw [List.isEmpty_iff] at e1 e2
              rw [e1, e2]
            · have := congrArg Head.many hsr
              unfold sort at this
              simp only at this
              rw [if_pos (by omega), if_pos (by omega)] at this
              exact this
          unfold Ty.head
          rw [hrk, hmany]
          rw [if_neg (by omega), if_neg (by omega), if_neg (by omega), if_neg (by omega)]
        rw [this, ← h']
        exact hx'
      · rw [if_neg h45] at hw2
        by_cases h6 : x.k = 6
        · rw [if_pos h6, Bool.and_eq_true] at hw2
          have hp6 : p.k = 6 := by omega
          have hxn : x.nm = p.nm := by rw [← hpx]; unfold Ty.head; simp [hp6]
          have hyn : ofOf l y.nm = ofOf l p.nm := by
            have hof := congrArg Head.nm hsq
            unfold sort at hof
            simp only [hqk, hp6, if_true] at hof
            rw [← hqy]
            unfold Ty.head
            simp only [hqk, hp6, if_true]
            exact hof
          have hcnt := heads_count hf hn hp wp hp6
          have hlen : xs.length + 1 = manyOf l (ofOf l p.nm) := by have := hw2.2; rw [hxn] at this; simpa using this
          have hle : (heads c).length ≤ (heads c').length := by rw [h', List.length_cons, hlen]; exact hcnt
          have hge := nodup_le _ _ (heads_nodup c') hsub
          refine ⟨?_, fun h hh => by rw [← h']; rw [← hc] at hh; exact nodup_all (heads_nodup c') hsub hle h hh⟩
          show (if y.k = 4 ∨ y.k = 5 then true else if y.k = 6 then (ofOf l y.nm != [101, 120, 110] && (ys.length + 1 == manyOf l (ofOf l y.nm))) else false) = true
          rw [if_neg (by omega), if_pos (by omega), hyn]
          have e1 : (heads c).length = ys.length + 1 := by rw [hc]; rfl
          have e2 : (heads c').length = xs.length + 1 := by rw [h']; rfl
          have h1 := hw2.1
          rw [hxn] at h1
          rw [h1]
          simp
          omega
        · rw [if_neg h6] at hw2; cases hw2
/-- Fewer rows take no more. -/
theorem useful_anti (l : List Inf) : ∀ (m : Nat) (rows rows' : List (List Ty)) (q : List Ty), wtss rows + wts q + q.length ≤ m → rows'.Sublist rows → MF l q.length (q :: rows) → useful l rows q = true → useful l rows' q = true := by
  intro m
  induction m with
  | zero =>
    intro rows rows' q hm hs hM hu
    have hq : q = [] := List.length_eq_zero_iff.1 (by omega)
    subst hq
    cases rows with
    | nil => have : rows' = [] := by simpa using hs
             rw [this]; exact useful_nil _ _
    | cons r rows => rw [useful_none] at hu; cases hu
  | succ m ih =>
    intro rows rows' q hm hs hM hu
    cases rows' with
    | nil => exact useful_nil _ _
    | cons r' rows' =>
      cases rows with
      | nil => cases hs
      | cons r rows =>
        cases q with
        | nil => rw [useful_none] at hu; cases hu
        | cons p q =>
          rw [wts, List.length_cons] at hm
          have hMt : MF l (q.length + 1) ((p :: q) :: r :: rows) := hM
          cases hw : p.wild with
          | false =>
            rw [useful_tame l hw] at hu ⊢
            have hmem : p.head ∈ heads ((((p :: q) :: r :: rows)).filterMap List.head?) := (heads_mem_iff _ _).2 ⟨p, by rw [List.filterMap_cons]; exact List.mem_cons_self, hw, rfl⟩
            have hM2 := hMt.opened hmem
            have eo : ((p :: q) :: r :: rows).filterMap (opened p.head) = (p.ks ++ q) :: (r :: rows).filterMap (opened p.head) := by
              rw [List.filterMap_cons, opened_cons, hw]; simp
            rw [eo] at hM2
            have hl2 : (p.ks ++ q).length = p.head.many + q.length := by rw [List.length_append]; rfl
            refine ih _ _ _ ?_ (List.Sublist.filterMap _ hs) (by rw [hl2]; exact hM2) hu
            have := wtss_opened p.head (r :: rows)
            rw [wts_append, hl2]
            rw [wt_tame hw] at hm
            have : p.head.many = p.ks.length := rfl
            omega
          | true =>
            rw [wt_wild hw] at hm
            have hcolM := hMt.col 0 (by omega)
            rw [col0] at hcolM
            have hsc : ((r :: rows).filterMap List.head?).Sublist (((p :: q) :: r :: rows).filterMap List.head?) := (List.sublist_cons_self _ _).filterMap _
            have hfc : fit l ((r :: rows).filterMap List.head?) = true := fit_sub l _ _ _ (Nat.le_refl _) (hsc.filter _) hcolM
            have hnc : ∀ x ∈ (r :: rows).filterMap List.head?, named l x = true := fun x hx => by
              obtain ⟨y, hy, he⟩ := List.mem_filterMap.1 hx
              cases y with
              | nil => cases he
              | cons a b => cases he; exact hM.nam _ (List.mem_cons_of_mem _ hy) _ List.mem_cons_self
            have hs' : ((r' :: rows').filterMap List.head?).Sublist ((r :: rows).filterMap List.head?) := hs.filterMap _
            have hop : ∀ h ∈ heads ((r :: rows).filterMap List.head?), MF l (h.many + q.length) ((List.replicate h.many any ++ q) :: (r :: rows).filterMap (opened h)) := fun h hh => by
              have hmem : h ∈ heads ((((p :: q) :: r :: rows)).filterMap List.head?) := by
                obtain ⟨x, hx, wx, he⟩ := heads_mem hh
                exact (heads_mem_iff _ _).2 ⟨x, hsc.subset hx, wx, he⟩
              have := hMt.opened hmem
              have eo : ((p :: q) :: r :: rows).filterMap (opened h) = (List.replicate h.many any ++ q) :: (r :: rows).filterMap (opened h) := by
                rw [List.filterMap_cons, opened_cons, hw]; rfl
              rw [eo] at this
              exact this
            have hlq : ∀ h : Head, (List.replicate h.many any ++ q).length = h.many + q.length := fun h => by rw [List.length_append, List.length_replicate]
            have hmo : ∀ h ∈ heads ((r :: rows).filterMap List.head?), wtss ((r :: rows).filterMap (opened h)) + wts (List.replicate h.many any ++ q) + (List.replicate h.many any ++ q).length ≤ m := fun h hh => by
              have := wtss_opened_lt hh
              rw [wts_append, wts_any, hlq]
              omega
            cases hW : wholeOf l (heads ((r :: rows).filterMap List.head?)) with
            | true =>
              rw [useful_whole l hw _ _ _ hW, List.any_eq_true] at hu
              obtain ⟨h, hh, hu⟩ := hu
              cases hW' : wholeOf l (heads ((r' :: rows').filterMap List.head?)) with
              | true =>
                rw [useful_whole l hw _ _ _ hW', List.any_eq_true]
                refine ⟨h, (whole_sub hfc hnc hs' hW').2 h hh, ?_⟩
                exact ih _ _ _ (hmo h hh) (hs.filterMap _) (by rw [hlq]; exact hop h hh) hu
              | false =>
                rw [useful_rest l hw _ _ _ hW']
                have hsub : ((r' :: rows').filterMap rest).map (fun s => List.replicate h.many any ++ s) |>.Sublist ((r :: rows).filterMap (opened h)) := by
                  refine List.Sublist.trans ?_ (hs.filterMap _)
                  generalize r' :: rows' = S
                  induction S with
                  | nil => exact List.Sublist.slnil
                  | cons s S ih =>
                    rw [List.filterMap_cons, List.filterMap_cons]
                    cases s with
                    | nil => exact ih
                    | cons a b =>
                      rw [rest_cons, opened_cons]
                      cases wa : a.wild with
                      | true => exact List.Sublist.cons_cons _ ih
                      | false =>
                        simp only [Bool.false_eq_true, if_false]
                        split
                        · exact ih
                        · exact List.Sublist.cons _ ih
                have := ih _ _ _ (hmo h hh) hsub (by rw [hlq]; exact hop h hh) hu
                rwa [useful_strip] at this
            | false =>
              have hW' : wholeOf l (heads ((r' :: rows').filterMap List.head?)) = false := by
                cases hW' : wholeOf l (heads ((r' :: rows').filterMap List.head?)) with
                | false => rfl
                | true => rw [(whole_sub hfc hnc hs' hW').1] at hW; cases hW
              rw [useful_rest l hw _ _ _ hW] at hu
              rw [useful_rest l hw _ _ _ hW']
              have hMr := hMt.rest
              have er : ((p :: q) :: r :: rows).filterMap rest = q :: (r :: rows).filterMap rest := by rw [List.filterMap_cons, rest_cons, hw]; rfl
              rw [er] at hMr
              refine ih _ _ _ ?_ (hs.filterMap _) hMr hu
              have := wtss_rest (r :: rows)
              omega
theorem each_sub (l : List Inf) : ∀ (ps ps' : List Ty) (R R' : List (List Ty)), ps'.Sublist ps → R'.Sublist R → MF l 1 (R ++ ps.map fun p => [p]) → eachOf l R ps = true → eachOf l R' ps' = true := by
  intro ps
  induction ps with
  | nil =>
    intro ps' R R' hs _ _ _
    have : ps' = [] := by simpa using hs
    rw [this]; rfl
  | cons x ps ih =>
    intro ps' R R' hs hR hM hu
    rw [eachOf, Bool.and_eq_true] at hu
    have hM2 : MF l 1 ((R ++ [[x]]) ++ ps.map fun p => [p]) := by rw [List.append_assoc]; exact hM
    cases hs with
    | cons _ hs => exact ih ps' (R ++ [[x]]) R' hs (hR.trans (List.sublist_append_left _ _)) hM2 hu.2
    | cons_cons _ hs =>
      rename_i ps1
      rw [eachOf, Bool.and_eq_true]
      refine ⟨?_, ih ps1 (R ++ [[x]]) (R' ++ [[x]]) hs (hR.append (List.Sublist.refl _)) hM2 hu.2⟩
      have hMx : MF l 1 (R ++ [[x]]) := hM2.sub (List.sublist_append_left _ _)
      refine useful_anti l _ R R' [x] (Nat.le_refl _) hR ?_ hu.1
      refine ⟨fun r hr => ?_, fun j hj => ?_, fun r hr => ?_⟩
      · rcases List.mem_cons.1 hr with rfl | hr
        · rfl
        · exact hMx.len r (List.mem_append_left _ hr)
      · have hj0 : j = 0 := by have : j < 1 := hj; omega
        subst hj0
        have h1 := hMx.col 0 (by omega)
        rw [col0, List.filterMap_append] at h1
        rw [col0, List.filterMap_cons]
        refine fit_set l _ _ _ (Nat.le_refl _) (fun q hq _ => ?_) h1
        have hq2 : q = x ∨ q ∈ R.filterMap List.head? := List.mem_cons.1 hq
        rcases hq2 with rfl | hq2
        · exact List.mem_append_right _ (by exact List.mem_cons_self)
        · exact List.mem_append_left _ hq2
      · rcases List.mem_cons.1 hr with rfl | hr
        · exact hMx.nam _ (List.mem_append_right _ (List.mem_singleton.2 rfl))
        · exact hMx.nam r (List.mem_append_left _ hr)
theorem partss_sub : ∀ {a b : List Ty}, a.Sublist b → partss a ≤ partss b
  | _, _, .slnil => Nat.le_refl _
  | _, _, .cons x h => by rw [partss]; have := partss_sub h; omega
  | _, _, .cons_cons x h => by rw [partss, partss]; have := partss_sub h; omega
/-- What CoverLess asks. -/
theorem told_less {l : List Inf} {ps ps' : List Ty} (h : told l ps false = 0) (hs : ps'.Sublist ps) : told l ps' false = 0 := by
  obtain ⟨h1, h2, h3, h4⟩ := told_zero h
  have hM : MF l 1 ([] ++ ps.map fun p => [p]) := by
    rw [List.nil_append]
    refine ⟨fun r hr => ?_, fun j hj => ?_, fun r hr p hp => ?_⟩
    · obtain ⟨x, _, rfl⟩ := List.mem_map.1 hr; rfl
    · have hj0 : j = 0 := by omega
      subst hj0
      rw [col0]
      have : ∀ qs : List Ty, (qs.map fun p => [p]).filterMap List.head? = qs := fun qs => by
        induction qs with
        | nil => rfl
        | cons q qs ih => rw [List.map_cons, List.filterMap_cons, ih]; rfl
      rw [this]; exact h3
    · obtain ⟨x, hx, rfl⟩ := List.mem_map.1 hr
      rw [List.mem_singleton.1 hp]
      rw [nameds_all] at h2
      exact List.all_eq_true.1 h2 x hx
  have hp := partss_sub hs
  rw [told_of (by omega) (by
    rw [nameds_all] at h2 ⊢
    exact List.all_eq_true.2 fun x hx => List.all_eq_true.1 h2 x (hs.subset hx)) (fit_sub l _ _ _ (Nat.le_refl _) (hs.filter _) h3), each_sub l ps ps' [] [] hs List.Sublist.slnil hM h4]
  rfl
end Go.Proofs.Ytigaondgopahgaa
