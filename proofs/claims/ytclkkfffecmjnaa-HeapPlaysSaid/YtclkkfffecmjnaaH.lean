/- heap: an object turned, a tie more, a tie gone, an object more: in memory. -/
import Derived.Test.YtclkkfffecmjnaaG
namespace Go.Proofs.Ytclkkfffecmjnaa
open Go.RowKit

def updL (y : Ho) (L : List Ho) : List Ho := L.map fun x => if x.h = y.h then y else x
theorem updL_h (y x : Ho) : (if x.h = y.h then y else x).h = x.h := by
  split
  · rename_i h; exact h.symm
  · rfl
theorem updL_mem {y x : Ho} {L : List Ho} (h : x ∈ updL y L) : (x = y ∧ ∃ z ∈ L, z.h = y.h) ∨ (x ∈ L ∧ x.h ≠ y.h) := by
  obtain ⟨z, hz, rfl⟩ := List.mem_map.1 h
  by_cases e : z.h = y.h
  · rw [if_pos e]; exact .inl ⟨rfl, z, hz, e⟩
  · rw [if_neg e]; exact .inr ⟨hz, e⟩
theorem updL_in {y : Ho} {L : List Ho} (h : ∃ z ∈ L, z.h = y.h) : y ∈ updL y L := by
  obtain ⟨z, hz, e⟩ := h
  exact List.mem_map.2 ⟨z, hz, if_pos e⟩
theorem updL_keep {y x : Ho} {L : List Ho} (hx : x ∈ L) (h : x.h ≠ y.h) : x ∈ updL y L := List.mem_map.2 ⟨x, hx, if_neg h⟩
theorem updL_len (y : Ho) (L : List Ho) : (updL y L).length = L.length := by unfold updL; simp
theorem updL_rise {y : Ho} {L : List Ho} (h : L.Pairwise fun a b => a.h < b.h) : (updL y L).Pairwise fun a b => a.h < b.h := by
  unfold updL
  rw [List.pairwise_map]
  exact h.imp fun {a b} hab => by rw [updL_h, updL_h]; exact hab
theorem atH_upd (B : Nat → Nat) (y : Ho) (L : List Ho) : atH B (updL y L) = atH B L := by
  funext i
  unfold atH updL
  rw [List.find?_map, Option.map_map]
  have e1 : ((fun x : Ho => (x.h : Int) == i) ∘ fun x => if x.h = y.h then y else x) = fun x => (x.h : Int) == i := by
    funext x
    show ((((if x.h = y.h then y else x).h : Nat) : Int) == i) = _
    rw [updL_h]
  have e2 : ((fun x : Ho => B x.h) ∘ fun x => if x.h = y.h then y else x) = fun x => B x.h := by
    funext x
    show B (if x.h = y.h then y else x).h = _
    rw [updL_h]
  rw [e1, e2]
theorem total_upd {x y : Ho} (hy : y.h = x.h) : ∀ {L : List Ho}, L.Pairwise (fun a b => a.h < b.h) → x ∈ L → Hp.total (updL y L) + Hp.sizeO x.o = Hp.total L + Hp.sizeO y.o
  | [], _, h => by cases h
  | z :: L, hp, h => by
    obtain ⟨h1, h2⟩ := List.pairwise_cons.1 hp
    rcases List.mem_cons.1 h with e | h
    · subst e
      have : updL y L = L := by
        unfold updL
        refine (List.map_congr_left (fun a ha => ?_)).trans (List.map_id _)
        rw [if_neg (by have := h1 a ha; omega)]; rfl
      have e2 : updL y (x :: L) = y :: updL y L := by unfold updL; rw [List.map_cons, if_pos hy.symm]
      rw [e2, this]
      unfold Hp.total
      simp only [List.map_cons, List.sum_cons]
      omega
    · have ih := total_upd hy h2 h
      have e2 : updL y (z :: L) = z :: updL y L := by unfold updL; rw [List.map_cons, if_neg (by have := h1 x h; omega)]
      rw [e2]
      unfold Hp.total at ih ⊢
      simp only [List.map_cons, List.sum_cons]
      omega
section
variable {w w' : World} {M : Mem} {n : Nat} {H : HS}
theorem HM.upd (h : HM w M n H) {x y : Ho} (hx : x ∈ H.L) (hy : y.h = x.h) {G : Nat → Prop} (ho : Off G w w') (hG : ∀ b, G b → M.R b = .it x.h ∨ M.R b = .wd x.h) {R' : Nat → Lab} (hR : ∀ b, M.R b ≠ .no → R' b = M.R b)
    (hl : ∀ b, R' b ≠ .no → b < w'.heap.size) {A : Option Addr} {c : Nat} (hh : Held w' R' (M.B x.h) y A c) : HM w' { M with R := R' } n { H with L := updL y H.L } := by
  have hn : ∀ b l, M.R b = l → (∀ j, l ≠ .it j) → (∀ j, l ≠ .wd j) → ¬ G b := fun b l e h1 h2 hb => by
    rcases hG b hb with e' | e'
    · exact h1 _ (e.symm.trans e')
    · exact h2 _ (e.symm.trans e')
  have hs : ∀ b l, M.R b = l → l ≠ .no → (∀ j, l ≠ .it j) → (∀ j, l ≠ .wd j) → w'.heap[b]? = w.heap[b]? := fun b l e h0 h1 h2 => ho.block b (h.lt b (by rw [e]; exact h0)) (hn b l e h1 h2)
  refine ⟨h.head.same (hs _ _ h.rg (by intro e; cases e) (by intro j e; cases e) (by intro j e; cases e)), ?_, h.ois.same (hs _ _ h.roi (by intro e; cases e) (by intro j e; cases e) (by intro j e; cases e)), h.has.same (hs _ _ h.rha (by intro e; cases e) (by intro j e; cases e) (by intro j e; cases e)), fun z hz => ?_, ?_, ?_, ?_, ?_, hl⟩
  · show PMap w' M.ob n (updL y H.L).length (atH M.B (updL y H.L))
    rw [updL_len, atH_upd]
    exact h.obs.same (hs _ _ h.rob (by intro e; cases e) (by intro j e; cases e) (by intro j e; cases e))
  · rcases updL_mem hz with ⟨rfl, _⟩ | ⟨hz, hne⟩
    · exact ⟨A, c, by show Held w' R' (M.B z.h) z A c; rw [hy]; exact hh⟩
    · obtain ⟨A2, c2, k⟩ := h.held z hz
      exact ⟨A2, c2, k.off ho (fun b hb => by
        rcases hG b hb with e | e
        · rw [e]; exact ⟨fun e' => hne (by have := Lab.it.inj e'; omega), (fun e' => by cases e')⟩
        · rw [e]; exact ⟨(fun e' => by cases e'), fun e' => hne (by have := Lab.wd.inj e'; omega)⟩) hR⟩
  · exact (hR _ (by rw [h.rg]; intro e; cases e)).trans h.rg
  · exact (hR _ (by rw [h.rob]; intro e; cases e)).trans h.rob
  · exact (hR _ (by rw [h.roi]; intro e; cases e)).trans h.roi
  · exact (hR _ (by rw [h.rha]; intro e; cases e)).trans h.rha
/-- A field of the head stored. -/
theorem HM.head1 (h : HM w M n H) (u : Nat) : HM (w.setCell ⟨M.g, 1, none⟩ (.int .i64 (u : Int))) M n { H with used := u } := by
  have hne : ∀ b l, M.R b = l → l ≠ .hd → b ≠ M.g := fun b l e hl e' => hl (by rw [← e, e', h.rg])
  have hs : ∀ b l, M.R b = l → l ≠ .hd → (w.setCell ⟨M.g, 1, none⟩ (.int .i64 (u : Int))).heap[b]? = w.heap[b]? := fun b l e hl => Below.heap_setCell _ _ _ _ (hne b l e hl)
  refine ⟨h.head.set_ 1 _, h.obs.same (hs _ _ h.rob (by intro e; cases e)), h.ois.same (hs _ _ h.roi (by intro e; cases e)), h.has.same (hs _ _ h.rha (by intro e; cases e)), fun x hx => ?_, h.rg, h.rob, h.roi, h.rha, fun b hb => by simp only [World.setCell, Array.size_modify]; exact h.lt b hb⟩
  obtain ⟨A, c, k⟩ := h.held x hx
  exact ⟨A, c, k.off (Off.setc _ _ _ _) (fun b e => by have e' : b = M.g := e; rw [e', h.rg]; exact ⟨(fun e => by cases e), (fun e => by cases e)⟩) (fun b _ => rfl)⟩
theorem HM.head2 (h : HM w M n H) (u : Nat) : HM (w.setCell ⟨M.g, 2, none⟩ (.int .i64 (u : Int))) M n { H with count := u } := by
  have hne : ∀ b l, M.R b = l → l ≠ .hd → b ≠ M.g := fun b l e hl e' => hl (by rw [← e, e', h.rg])
  have hs : ∀ b l, M.R b = l → l ≠ .hd → (w.setCell ⟨M.g, 2, none⟩ (.int .i64 (u : Int))).heap[b]? = w.heap[b]? := fun b l e hl => Below.heap_setCell _ _ _ _ (hne b l e hl)
  refine ⟨h.head.set_ 2 _, h.obs.same (hs _ _ h.rob (by intro e; cases e)), h.ois.same (hs _ _ h.roi (by intro e; cases e)), h.has.same (hs _ _ h.rha (by intro e; cases e)), fun x hx => ?_, h.rg, h.rob, h.roi, h.rha, fun b hb => by simp only [World.setCell, Array.size_modify]; exact h.lt b hb⟩
  obtain ⟨A, c, k⟩ := h.held x hx
  exact ⟨A, c, k.off (Off.setc _ _ _ _) (fun b e => by have e' : b = M.g := e; rw [e', h.rg]; exact ⟨(fun e => by cases e), (fun e => by cases e)⟩) (fun b _ => rfl)⟩
/-- The ties' maps turned. -/
theorem HM.ties (h : HM w M n H) {n' : Nat} {T : List (Nat × Nat)} (ho : Off (fun b => b = M.oi ∨ b = M.ha) w w') (h1 : NMap w' M.oi n' T.length { H with T := T }.oidOf) (h2 : NMap w' M.ha n' T.length { H with T := T }.ofOid) (h3 : PMap w' M.ob n' H.L.length (atH M.B H.L)) : HM w' M n' { H with T := T } := by
  have hg : ¬ (M.g = M.oi ∨ M.g = M.ha) := fun e => by
    have := h.rg
    rcases e with e | e
    · rw [e, h.roi] at this; cases this
    · rw [e, h.rha] at this; cases this
  refine ⟨h.head.same (ho.block _ h.head.lt hg), h3, h1, h2, fun x hx => ?_, h.rg, h.rob, h.roi, h.rha, fun b hb => Nat.lt_of_lt_of_le (h.lt b hb) ho.size⟩
  obtain ⟨A, c, k⟩ := h.held x hx
  exact ⟨A, c, k.off ho (fun b e => by
    rcases e with e | e
    · rw [e, h.roi]; exact ⟨(fun e => by cases e), (fun e => by cases e)⟩
    · rw [e, h.rha]; exact ⟨(fun e => by cases e), (fun e => by cases e)⟩) (fun b _ => rfl)⟩
theorem PMap.mono {b k : Nat} {S : Int → Option Nat} (h : PMap w b n k S) {n' : Nat} (hn : n ≤ n') : PMap w b n' k S := by
  obtain ⟨D, h1, h2⟩ := h
  exact ⟨D, h1.mono hn, h2⟩
theorem HM.mono (h : HM w M n H) {n' : Nat} (hn : n ≤ n') : HM w M n' H := ⟨h.head, h.obs.mono hn, h.ois.mono hn, h.has.mono hn, h.held, h.rg, h.rob, h.roi, h.rha, h.lt⟩
end
/-! ### Ties, apart from memory. -/
theorem oid_add (H : HS) (k o : Nat) (hk : H.oidOf k = none) : (fun j : Int => if j = (k : Int) then some o else H.oidOf j) = { H with T := H.T ++ [(k, o)] }.oidOf := by
  funext j
  unfold HS.oidOf
  dsimp only
  rw [List.find?_append]
  by_cases e : j = (k : Int)
  · rw [if_pos e, e]
    have := Option.map_eq_none_iff.1 hk
    rw [this]
    simp
  · rw [if_neg e]
    have : ([(k, o)] : List (Nat × Nat)).find? (fun p => (p.1 : Int) == j) = none := by
      rw [List.find?_eq_none]
      intro p hp
      rw [List.mem_singleton.1 hp]
      simp; omega
    rw [this, Option.or_none]
theorem of_add (H : HS) (k o : Nat) (hk : H.ofOid o = none) : (fun j : Int => if j = (o : Int) then some k else H.ofOid j) = { H with T := H.T ++ [(k, o)] }.ofOid := by
  funext j
  unfold HS.ofOid
  dsimp only
  rw [List.find?_append]
  by_cases e : j = (o : Int)
  · rw [if_pos e, e]
    have := Option.map_eq_none_iff.1 hk
    rw [this]
    simp
  · rw [if_neg e]
    have : ([(k, o)] : List (Nat × Nat)).find? (fun p => (p.2 : Int) == j) = none := by
      rw [List.find?_eq_none]
      intro p hp
      rw [List.mem_singleton.1 hp]
      simp; omega
    rw [this, Option.or_none]
def delT (k : Nat) (T : List (Nat × Nat)) : List (Nat × Nat) := T.filter fun p => decide (p.1 ≠ k)
theorem delT_none {k : Nat} {T : List (Nat × Nat)} (h : ∀ p ∈ T, p.1 ≠ k) : delT k T = T := List.filter_eq_self.2 fun p hp => by simpa using h p hp
theorem delT_len {k : Nat} : ∀ {T : List (Nat × Nat)}, T.Pairwise (fun p q => p.1 ≠ q.1 ∧ p.2 ≠ q.2) → (∃ p ∈ T, p.1 = k) → (delT k T).length = T.length - 1
  | [], _, h => by obtain ⟨x, hx, _⟩ := h; cases hx
  | y :: T, hp, h => by
    obtain ⟨h1, h2⟩ := List.pairwise_cons.1 hp
    by_cases e : y.1 = k
    · have : delT k (y :: T) = T := by
        unfold delT
        rw [List.filter_cons, if_neg (by simp [e]), List.filter_eq_self.2 (fun x hx => by have := (h1 x hx).1; simp; omega)]
      rw [this]; simp
    · have : delT k (y :: T) = y :: delT k T := by unfold delT; rw [List.filter_cons, if_pos (by simpa using e)]
      obtain ⟨x, hx, hxs⟩ := h
      have hxT : x ∈ T := by
        rcases List.mem_cons.1 hx with e' | hx
        · rw [e'] at hxs; exact absurd hxs e
        · exact hx
      have ih := delT_len h2 ⟨x, hxT, hxs⟩
      have := List.length_pos_of_mem hxT
      rw [‹delT k (y :: T) = _›, List.length_cons, List.length_cons, ih]
      omega
theorem find_filter {α : Type} (p q : α → Bool) : ∀ L : List α, (L.filter p).find? q = L.find? fun a => p a && q a
  | [] => rfl
  | a :: L => by
    rw [List.filter_cons]
    cases hp : p a
    · rw [if_neg (by simp), List.find?_cons, hp, Bool.false_and]; exact find_filter p q L
    · rw [if_pos rfl, List.find?_cons, List.find?_cons, hp, Bool.true_and]
      cases q a
      · exact find_filter p q L
      · rfl
theorem oid_del (H : HS) (k : Nat) : (fun j : Int => if j = (k : Int) then none else H.oidOf j) = { H with T := delT k H.T }.oidOf := by
  funext j
  unfold HS.oidOf delT
  dsimp only
  rw [find_filter]
  by_cases e : j = (k : Int)
  · rw [if_pos e, List.find?_eq_none.2 (fun p hp => by simp; omega)]; rfl
  · rw [if_neg e]
    congr 2
    funext p
    by_cases hp : (p.1 : Int) = j
    · have : p.1 ≠ k := by omega
      simp [hp, this]
    · have : ((p.1 : Int) == j) = false := by simpa using hp
      simp [this]
theorem of_del {H : HS} (hties : H.T.Pairwise fun p q => p.1 ≠ q.1 ∧ p.2 ≠ q.2) {k o : Nat} (hp : (k, o) ∈ H.T) : (fun j : Int => if j = (o : Int) then none else H.ofOid j) = { H with T := delT k H.T }.ofOid := by
  have huniq : ∀ T : List (Nat × Nat), T.Pairwise (fun p q => p.1 ≠ q.1 ∧ p.2 ≠ q.2) → ∀ p ∈ T, ∀ q ∈ T, (p.1 = q.1 ∨ p.2 = q.2) → p = q := by
    intro T
    induction T with
    | nil => intro _ p hp; cases hp
    | cons z T ih =>
      intro hT p hp q hq e
      obtain ⟨h1, h2⟩ := List.pairwise_cons.1 hT
      rcases List.mem_cons.1 hp with ep | hp'
      · rcases List.mem_cons.1 hq with eq | hq'
        · rw [ep, eq]
        · have := h1 q hq'; rw [ep] at e; rcases e with e | e
          · exact absurd e this.1
          · exact absurd e this.2
      · rcases List.mem_cons.1 hq with eq | hq'
        · have := h1 p hp'; rw [eq] at e; rcases e with e | e
          · exact absurd e.symm this.1
          · exact absurd e.symm this.2
        · exact ih h2 p hp' q hq' e
  funext j
  unfold HS.ofOid delT
  dsimp only
  rw [find_filter]
  by_cases e : j = (o : Int)
  · rw [if_pos e, List.find?_eq_none.2 (fun q hq => ?_)]
    · rfl
    · simp only [Bool.and_eq_true, decide_eq_true_eq, beq_iff_eq, not_and]
      intro h1 h2
      have := huniq _ hties q hq (k, o) hp (.inr (by show q.2 = o; omega))
      rw [this] at h1
      exact h1 rfl
  · rw [if_neg e]
    congr 1
    have : ∀ q ∈ H.T, ((q.2 : Int) == j) = (decide (q.1 ≠ k) && ((q.2 : Int) == j)) := fun q hq => by
      by_cases h1 : q.1 = k
      · have := huniq _ hties q hq (k, o) hp (.inl h1)
        rw [this]
        have : ((o : Int) == j) = false := by simp; omega
        simp [this]
      · simp [h1]
    clear hp huniq
    generalize H.T = T at *
    clear hties
    induction T with
    | nil => rfl
    | cons a T ih =>
      rw [List.find?_cons, List.find?_cons, ← this a (List.mem_cons_self ..), ih (fun q hq => this q (List.mem_cons_of_mem _ hq))]
end Go.Proofs.Ytclkkfffecmjnaa
