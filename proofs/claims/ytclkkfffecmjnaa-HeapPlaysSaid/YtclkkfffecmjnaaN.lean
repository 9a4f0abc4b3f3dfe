/- heap: Alloc. -/
import Derived.Test.YtclkkfffecmjnaaK
import Derived.Deep.RegionHeld3
namespace Go.Proofs.Ytclkkfffecmjnaa
open Go.RowKit
attribute [local go_sem] Oper.semAt_some
def addB (B : Nat → Nat) (h f : Nat) : Nat → Nat := fun k => if k = h then f else B k
def addR (R : Nat → Lab) (h : Nat) (A : Option Addr) : Nat → Lab := fun b => if A.map Addr.block = some b then .wd h else R b
def addF (R : Nat → Lab) (h f : Nat) : Nat → Lab := fun b => if b = f then .it h else R b
theorem addR_same {R : Nat → Lab} {h : Nat} {A : Option Addr} {B : Nat} (hA : ∀ p : Addr, A = some p → B ≤ p.block) (hR : ∀ b, R b ≠ .no → b < B) : ∀ b, R b ≠ .no → addR R h A b = R b := fun b hb => by
  unfold addR
  rw [if_neg]
  intro e
  obtain ⟨p, hp, rfl⟩ := Option.map_eq_some_iff.1 e
  have := hA p hp
  have := hR _ hb
  omega
theorem addR_at {R : Nat → Lab} {h : Nat} {A : Option Addr} {p : Addr} (e : A = some p) : addR R h A p.block = .wd h := by
  unfold addR
  rw [if_pos (by rw [e]; rfl)]
theorem addR_or {R : Nat → Lab} {h : Nat} {A : Option Addr} {b : Nat} (hb : addR R h A b ≠ .no) : R b ≠ .no ∨ ∃ p, A = some p ∧ p.block = b := by
  unfold addR at hb
  by_cases e : A.map Addr.block = some b
  · obtain ⟨p, hp, h2⟩ := Option.map_eq_some_iff.1 e
    exact .inr ⟨p, hp, h2⟩
  · rw [if_neg e] at hb; exact .inl hb
theorem atH_none {B : Nat → Nat} {L : List Ho} {h : Nat} (hn : ∀ x ∈ L, x.h ≠ h) : atH B L (h : Int) = none := by
  unfold atH
  rw [List.find?_eq_none.2 (fun x hx => by have := hn x hx; simp; omega)]; rfl
theorem atH_add (B : Nat → Nat) (y : Ho) (f : Nat) (L : List Ho) (h : ∀ x ∈ L, x.h ≠ y.h) : (fun j : Int => if j = (y.h : Int) then some f else atH B L j) = atH (addB B y.h f) (L ++ [y]) := by
  funext j
  unfold atH
  rw [List.find?_append]
  by_cases e : j = (y.h : Int)
  · rw [if_pos e, List.find?_eq_none.2 (fun x hx => by have := h x hx; simp; omega)]
    have : ([y] : List Ho).find? (fun x => (x.h : Int) == j) = some y := by simp [e]
    rw [this]
    show some f = some (addB B y.h f y.h)
    unfold addB
    rw [if_pos rfl]
  · rw [if_neg e]
    have : ([y] : List Ho).find? (fun x => (x.h : Int) == j) = none := by
      rw [List.find?_eq_none]
      intro x hx
      rw [List.mem_singleton.1 hx]
      simp; omega
    rw [this]
    cases hh : L.find? (fun x => (x.h : Int) == j) with
    | none => rfl
    | some x =>
      show some (B x.h) = some (addB B y.h f x.h)
      unfold addB
      rw [if_neg (h x (List.mem_of_find?_eq_some hh))]
section
variable {w w' : World} {M : Mem} {n : Nat} {H : HS}
theorem HM.add (h : HM w M n H) (y : Ho) (f : Nat) {A : Option Addr} {c : Nat} (hno : ∀ x ∈ H.L, x.h ≠ y.h) (hf : w.heap.size ≤ f) (hA : ∀ p : Addr, A = some p → w.heap.size ≤ p.block ∧ p.block ≠ f)
    (hm : PMap w' M.ob (n + 1) (if (atH M.B H.L (y.h : Int)).isSome then H.L.length else H.L.length + 1) (fun j => if j = (y.h : Int) then some f else atH M.B H.L j)) (ho : Off (fun b => b = M.ob) w w')
    (hb : Blk w' f 88 (heldC y A c)) (hr : WRow 0 w' A y.o.ws.length c y.o.ws) :
    HM w' { M with B := addB M.B y.h f, R := addR (addF M.R y.h f) y.h A } (n + 1) { H with L := H.L ++ [y] } := by
  rw [atH_none hno, atH_add M.B y f H.L hno] at hm
  have hRf : ∀ b, M.R b ≠ .no → b ≠ f := fun b hb e => by have := h.lt b hb; omega
  have hR1 : ∀ b, M.R b ≠ .no → addF M.R y.h f b = M.R b := fun b hb => by unfold addF; rw [if_neg (hRf b hb)]
  have hR : ∀ b, M.R b ≠ .no → addR (addF M.R y.h f) y.h A b = M.R b := fun b hb => by
    unfold addR
    rw [if_neg]
    · exact hR1 b hb
    · intro e
      obtain ⟨p, hp, e2⟩ := Option.map_eq_some_iff.1 e
      have := (hA p hp).1
      have := h.lt b hb
      omega
  have hfl : addR (addF M.R y.h f) y.h A f = .it y.h := by
    unfold addR
    rw [if_neg]
    · unfold addF; rw [if_pos rfl]
    · intro e
      obtain ⟨p, hp, e2⟩ := Option.map_eq_some_iff.1 e
      exact (hA p hp).2 e2
  have hs : ∀ b l, M.R b = l → l ≠ .no → l ≠ .mp 0 → w'.heap[b]? = w.heap[b]? := fun b l e h0 h1 => ho.block b (h.lt b (by rw [e]; exact h0)) fun e' => by
    have e' : b = M.ob := e'
    rw [e', h.rob] at e
    exact h1 e.symm
  refine ⟨h.head.same (hs _ _ h.rg (by intro e; cases e) (by intro e; cases e)), by rw [List.length_append]; exact hm, (h.ois.same (hs _ _ h.roi (by intro e; cases e) (by intro e; cases e))).mono (Nat.le_succ _), (h.has.same (hs _ _ h.rha (by intro e; cases e) (by intro e; cases e))).mono (Nat.le_succ _), fun x hx => ?_, ?_, ?_, ?_, ?_, fun b hb' => ?_⟩
  · rcases List.mem_append.1 hx with hx | hx
    · obtain ⟨A2, c2, k⟩ := h.held x hx
      refine ⟨A2, c2, ?_⟩
      have e : (addB M.B y.h f) x.h = M.B x.h := by unfold addB; rw [if_neg (hno x hx)]
      show Held w' _ ((addB M.B y.h f) x.h) x A2 c2
      rw [e]
      exact k.off ho (fun b e => by have e' : b = M.ob := e; rw [e', h.rob]; exact ⟨(fun e => by cases e), (fun e => by cases e)⟩) hR
    · rw [List.mem_singleton.1 hx]
      refine ⟨A, c, ?_⟩
      have e : (addB M.B y.h f) y.h = f := by unfold addB; rw [if_pos rfl]
      show Held w' _ ((addB M.B y.h f) y.h) y A c
      rw [e]
      exact ⟨hb, hr, hfl, fun p e => addR_at e⟩
  · exact (hR _ (by rw [h.rg]; intro e; cases e)).trans h.rg
  · exact (hR _ (by rw [h.rob]; intro e; cases e)).trans h.rob
  · exact (hR _ (by rw [h.roi]; intro e; cases e)).trans h.roi
  · exact (hR _ (by rw [h.rha]; intro e; cases e)).trans h.rha
  · rcases addR_or hb' with h1 | ⟨p, hp, rfl⟩
    · unfold addF at h1
      by_cases e : b = f
      · rw [e]; exact hb.lt
      · rw [if_neg e] at h1; exact Nat.lt_of_lt_of_le (h.lt b h1) ho.size
    · exact (hr.blk p hp).2.2.2
def allocH (H : HS) (o : Ob) : HS := ⟨H.limit, H.used + Hp.sizeO o, H.count + 1, H.L ++ [⟨H.count + 1, o, false⟩], if o.k = 8 then H.T ++ [(H.count + 1, o.tag.toNat)] else H.T⟩
theorem fresh {t : Nat} (hok : H.Ok t) : (∀ x ∈ H.L, x.h ≠ H.count + 1) ∧ H.oidOf ((H.count + 1 : Nat) : Int) = none := by
  refine ⟨fun x hx e => by have := (hok.inn x hx).2.1; omega, ?_⟩
  unfold HS.oidOf
  rw [List.find?_eq_none.2]; rfl
  intro p hp
  obtain ⟨⟨x, hx, e⟩, _⟩ := hok.tied p hp
  have := (hok.inn x hx).2.1
  simp
  omega
theorem may8 {o : Ob} (hm : Hp.mayO o = true) (h8 : o.k = 8) : 1 ≤ o.tag ∧ o.tag ≤ 16384 ∧ o.ws = [] := by
  unfold Hp.mayO at hm
  have : Hp.kindO o.k o.ws.length = some (0, 0, 16384) := by rw [h8]; rfl
  rw [this] at hm
  simp [h8] at hm
  obtain ⟨⟨⟨⟨⟨h1, h2⟩, h3⟩, h4⟩, h5⟩, h6⟩ := hm
  exact ⟨by omega, by omega, h1⟩
theorem allocOk {t : Nat} (hok : H.Ok t) {o : Ob} (hs : Hp.small o) (hm : Hp.mayO o = true) (h8 : o.k = 8 → H.ofOid o.tag = none) (hsz : Hp.sizeO o ≤ H.limit - H.used) : (allocH H o).Ok (t + 1) := by
  have hfr := fresh hok
  have hcl : H.L.Pairwise fun x y => x.h < y.h := hok.rise
  have hroom := hok.room
  have hpos := Hp.sizeO_pos o
  have h8' : ∀ e : o.k = 8, o.tag = (o.tag.toNat : Int) ∧ 1 ≤ o.tag.toNat ∧ o.tag.toNat ≤ 16384 := fun e => by
    have := may8 hm e
    omega
  have hT : ∀ p ∈ (allocH H o).T, p ∈ H.T ∨ (o.k = 8 ∧ p = (H.count + 1, o.tag.toNat)) := fun p hp => by
    have hp : p ∈ (if o.k = 8 then H.T ++ [(H.count + 1, o.tag.toNat)] else H.T) := hp
    split at hp
    · rename_i e
      rcases List.mem_append.1 hp with h | h
      · exact .inl h
      · exact .inr ⟨e, List.mem_singleton.1 h⟩
    · exact .inl hp
  have hTs : ∀ p ∈ H.T, p ∈ (allocH H o).T := fun p hp => by
    show p ∈ (if o.k = 8 then H.T ++ [(H.count + 1, o.tag.toNat)] else H.T)
    split
    · exact List.mem_append.2 (.inl hp)
    · exact hp
  refine ⟨?_, fun x hx => ?_, ?_, fun p hp => ?_, fun x hx hd => ?_, fun x hx e8 => ?_, ?_, ⟨?_, hroom.2⟩, ?_⟩
  · show (H.L ++ [_]).Pairwise _
    rw [List.pairwise_append]
    exact ⟨hcl, List.pairwise_singleton _ _, fun a ha b hb => by rw [List.mem_singleton.1 hb]; have := (hok.inn a ha).2.1; show a.h < H.count + 1; omega⟩
  · rcases List.mem_append.1 hx with h | h
    · have := hok.inn x h
      exact ⟨this.1, by show x.h ≤ H.count + 1; omega, this.2.2⟩
    · rw [List.mem_singleton.1 h]
      exact ⟨by show 1 ≤ H.count + 1; omega, Nat.le_refl _, hs, hm⟩
  · show (if o.k = 8 then H.T ++ [(H.count + 1, o.tag.toNat)] else H.T).Pairwise _
    split
    · rename_i e
      rw [List.pairwise_append]
      refine ⟨hok.ties, List.pairwise_singleton _ _, fun a ha b hb => ?_⟩
      rw [List.mem_singleton.1 hb]
      refine ⟨fun e' => ?_, fun e' => ?_⟩
      · obtain ⟨⟨x, hx, ex⟩, _⟩ := hok.tied a ha
        have := (hok.inn x hx).2.1
        have e' : a.1 = H.count + 1 := e'
        omega
      · have := HS.of_none (h8 e) a ha
        have e' : a.2 = o.tag.toNat := e'
        have := h8' e
        omega
    · exact hok.ties
  · rcases hT p hp with h | ⟨e, rfl⟩
    · obtain ⟨⟨x, hx, ex⟩, h2⟩ := hok.tied p h
      exact ⟨⟨x, List.mem_append.2 (.inl hx), ex⟩, h2⟩
    · exact ⟨⟨_, List.mem_append.2 (.inr (List.mem_singleton.2 rfl)), rfl⟩, (h8' e).2⟩
  · rcases List.mem_append.1 hx with h | h
    · obtain ⟨p, hp, e⟩ := hok.dirty x h hd
      exact ⟨p, hTs p hp, e⟩
    · rw [List.mem_singleton.1 h] at hd; cases hd
  · rcases List.mem_append.1 hx with h | h
    · obtain ⟨p, hp, e⟩ := hok.stub x h e8
      exact ⟨p, hTs p hp, e⟩
    · rw [List.mem_singleton.1 h] at e8 ⊢
      have e8 : o.k = 8 := e8
      refine ⟨(H.count + 1, o.tag.toNat), ?_, rfl, ?_⟩
      · show _ ∈ (if o.k = 8 then H.T ++ [(H.count + 1, o.tag.toNat)] else H.T)
        rw [if_pos e8]
        exact List.mem_append.2 (.inr (List.mem_singleton.2 rfl))
      · exact (h8' e8).1.symm
  · show H.used + Hp.sizeO o = Hp.total (H.L ++ [_])
    rw [hok.sum]
    unfold Hp.total
    simp
  · show H.used + Hp.sizeO o ≤ H.limit
    omega
  · have := hok.cnt
    show H.count + 1 ≤ t + 1
    omega
end
end Go.Proofs.Ytclkkfffecmjnaa
