/- cache: a frame turned, a frame gone; Unpin, Drop. -/
import Derived.Test.YtiemfhncadcemaaCd
namespace Go.Proofs.Ytiemfhncadcemaa
open Go.RowKit Dsk

def updL (y : Fr) (L : List Fr) : List Fr := L.map fun x => if x.s = y.s then y else x
theorem updL_s (y x : Fr) : (if x.s = y.s then y else x).s = x.s := by
  split
  · rename_i h; exact h.symm
  · rfl
theorem updL_mem {y x : Fr} {L : List Fr} (h : x ∈ updL y L) : (x = y ∧ ∃ z ∈ L, z.s = y.s) ∨ (x ∈ L ∧ x.s ≠ y.s) := by
  obtain ⟨z, hz, rfl⟩ := List.mem_map.1 h
  by_cases e : z.s = y.s
  · rw [if_pos e]; exact .inl ⟨rfl, z, hz, e⟩
  · rw [if_neg e]; exact .inr ⟨hz, e⟩
theorem updL_len (y : Fr) (L : List Fr) : (updL y L).length = L.length := by unfold updL; simp
theorem atS_upd (B : Nat → Nat) (y : Fr) (L : List Fr) : atS B (updL y L) = atS B L := by
  funext i
  unfold atS updL
  rw [List.find?_map, Option.map_map]
  have e1 : ((fun x : Fr => (x.s : Int) == i) ∘ fun x => if x.s = y.s then y else x) = fun x => (x.s : Int) == i := by
    funext x
    show ((((if x.s = y.s then y else x).s : Nat) : Int) == i) = _
    rw [updL_s]
  have e2 : ((fun x : Fr => B x.s) ∘ fun x => if x.s = y.s then y else x) = fun x => B x.s := by
    funext x
    show B (if x.s = y.s then y else x).s = _
    rw [updL_s]
  rw [e1, e2]
theorem Cm.upd {w w' : World} {E : Nat → Prop} {g dg mb n most time time' : Nat} {B : Nat → Nat} {L : List Fr} (h : Cm w E g dg mb n B most time L) (y : Fr) (v : Value) (hy : ∃ x ∈ L, x.s = y.s)
    (ho : Off (fun k => k = B y.s ∨ k = g) w w') (hh : CHead w' g dg mb most time') (hf : Frm w' (B y.s) v y.dirty y.pins y.used) (hv : Sec w' (grow E w w') v y.b) (hb : y.b.length = 256 ∧ y.pins < 1000000000) :
    Cm w' (grow E w w') g dg mb n B most time' (updL y L) := by
  obtain ⟨x0, hx0, hs0⟩ := hy
  have hap := h.apart x0 hx0
  rw [hs0] at hap
  have hlt : ∀ x ∈ L, B x.s < w.heap.size := fun x hx => by obtain ⟨v, h1, _⟩ := h.frm x hx; exact Blk.lt h1
  have hgl := Blk.lt h.head
  refine ⟨hh, ?_, fun x hx => ?_, fun x hx => ?_, ?_, fun x hx z hz e => ?_, fun x hx => ?_, ?_, ?_, h.ne⟩
  · rw [updL_len, atS_upd]
    exact h.map.same (ho.block mb h.map.lt (fun e => by rcases e with e | e; exact hap.2.1 e.symm; exact h.ne e.symm))
  · rcases updL_mem hx with ⟨rfl, _⟩ | ⟨hx, hne⟩
    · exact ⟨v, hf, hv⟩
    · obtain ⟨u, h1, h2⟩ := h.frm x hx
      refine ⟨u, Blk.same h1 (ho.block _ (hlt x hx) (fun e => by
        rcases e with e | e
        · exact hne ((h.inj x hx x0 hx0 (by rw [hs0]; exact e)).trans hs0)
        · exact (h.apart x hx).1 e)), ?_⟩
      exact (h2.same ho.size (fun k hk hl => ho.block k hl (fun e => by
        rcases e with e | e
        · exact hap.2.2 (e ▸ hk)
        · exact h.e1 (e ▸ hk)))).mono (fun k hk => grow.old hk)
  · rcases updL_mem hx with ⟨rfl, z, hz, e⟩ | ⟨hx, _⟩
    · exact ⟨hb.1, by rw [← e]; exact (h.secs z hz).2.1, hb.2⟩
    · exact h.secs x hx
  · unfold updL
    rw [List.pairwise_map]
    exact h.nodup.imp fun {a b} hab => by rw [updL_s, updL_s]; exact hab
  · have key : ∀ x ∈ updL y L, ∃ x' ∈ L, x'.s = x.s := fun x hx => by
      rcases updL_mem hx with ⟨rfl, z, hz, e⟩ | ⟨hx, _⟩
      · exact ⟨z, hz, e⟩
      · exact ⟨x, hx, rfl⟩
    obtain ⟨x', hx', ex⟩ := key x hx
    obtain ⟨z', hz', ez⟩ := key z hz
    rw [← ex, ← ez]
    exact h.inj x' hx' z' hz' (by rw [ex, ez]; exact e)
  · have key : ∃ x' ∈ L, x'.s = x.s := by
      rcases updL_mem hx with ⟨rfl, z, hz, e⟩ | ⟨hx, _⟩
      · exact ⟨z, hz, e⟩
      · exact ⟨x, hx, rfl⟩
    obtain ⟨x', hx', ex⟩ := key
    rw [← ex]
    refine ⟨(h.apart x' hx').1, (h.apart x' hx').2.1, fun e => ?_⟩
    rcases e with e | ⟨e, _⟩
    · exact (h.apart x' hx').2.2 e
    · have := hlt x' hx'; omega
  · intro e
    rcases e with e | ⟨e, _⟩
    · exact h.e1 e
    · omega
  · intro e
    rcases e with e | ⟨e, _⟩
    · exact h.e2 e
    · have := h.map.lt; omega
/-- A frame gone. -/
def delL (s : Nat) (L : List Fr) : List Fr := L.filter fun x => decide (x.s ≠ s)
theorem atS_del (B : Nat → Nat) (s : Nat) (L : List Fr) : (fun j : Int => if j = (s : Int) then none else atS B L j) = atS B (delL s L) := by
  funext j
  unfold atS delL
  rw [List.find?_filter]
  by_cases e : j = (s : Int)
  · rw [if_pos e]
    have : L.find? (fun a => decide (decide (a.s ≠ s) = true ∧ ((a.s : Int) == j) = true)) = none := by
      rw [List.find?_eq_none]
      intro x _ hx
      have hx := of_decide_eq_true hx
      simp at hx
      omega
    rw [this]; rfl
  · rw [if_neg e]
    congr 2
    funext a
    rw [Bool.eq_iff_iff, decide_eq_true_iff]
    by_cases ha : (a.s : Int) = j
    · have : a.s ≠ s := by omega
      simp [ha, this]
    · have : ((a.s : Int) == j) = false := by simpa using ha
      simp [this]
theorem delL_len {s : Nat} : ∀ {L : List Fr}, L.Pairwise (fun x y => x.s ≠ y.s) → (∃ x ∈ L, x.s = s) → (delL s L).length = L.length - 1
  | [], _, h => by obtain ⟨x, hx, _⟩ := h; cases hx
  | y :: L, hp, h => by
    obtain ⟨h1, h2⟩ := List.pairwise_cons.1 hp
    unfold delL
    by_cases e : y.s = s
    · have : (y :: L).filter (fun x => decide (x.s ≠ s)) = L := by
        rw [List.filter_cons, if_neg (by simp [e]), List.filter_eq_self.2 (fun x hx => by have := h1 x hx; simp; omega)]
      rw [this]; simp
    · have : (y :: L).filter (fun x => decide (x.s ≠ s)) = y :: L.filter (fun x => decide (x.s ≠ s)) := by rw [List.filter_cons, if_pos (by simpa using e)]
      rw [this]
      obtain ⟨x, hx, hxs⟩ := h
      have hxL : x ∈ L := by
        rcases List.mem_cons.1 hx with rfl | hx
        · exact absurd hxs e
        · exact hx
      have ih := delL_len h2 ⟨x, hxL, hxs⟩
      unfold delL at ih
      have := List.length_pos_of_mem hxL
      rw [List.length_cons, List.length_cons, ih]
      omega
theorem Cm.del {w w' : World} {E : Nat → Prop} {g dg mb n most time : Nat} {B : Nat → Nat} {L : List Fr} (h : Cm w E g dg mb n B most time L) (s : Nat) (hs : ∃ x ∈ L, x.s = s)
    (hm : PMap w' mb n (if (atS B L (s : Int)).isSome then L.length - 1 else L.length) (fun j => if j = (s : Int) then none else atS B L j)) (ho : Off (fun k => k = mb) w w') : Cm w' E g dg mb n B most time (delL s L) := by
  have hsub : ∀ x ∈ delL s L, x ∈ L := fun x hx => (List.mem_filter.1 hx).1
  have hsome : (atS B L (s : Int)).isSome = true := by
    unfold atS
    rw [Option.isSome_map, List.find?_isSome]
    obtain ⟨x, hx, e⟩ := hs
    exact ⟨x, hx, by simp [e]⟩
  rw [hsome, if_pos rfl, ← delL_len h.nodup hs, atS_del] at hm
  refine ⟨Blk.same h.head (ho.block g (Blk.lt h.head) h.ne), hm, fun x hx => ?_, fun x hx => h.secs x (hsub x hx), h.nodup.filter _, fun x hx y hy e => h.inj x (hsub x hx) y (hsub y hy) e, fun x hx => h.apart x (hsub x hx), h.e1, h.e2, h.ne⟩
  obtain ⟨v, h1, h2⟩ := h.frm x (hsub x hx)
  exact ⟨v, Blk.same h1 (ho.block _ (Blk.lt h1) (h.apart x (hsub x hx)).2.1), h2.same ho.size (fun k hk hl => ho.block k hl (fun e => h.e2 (e ▸ hk)))⟩
end Go.Proofs.Ytiemfhncadcemaa
