/- Apart's first loop: a round's ten bytes. -/
import Derived.Test.YtobfglnopihibaaZp
namespace Go.Proofs.Ytobfglnopihibaa
open Go.RowKit

theorem own_uniq {w : World} {base n : Nat} {e : TypeId} {size : Nat} {v : Value} {xs ys : List Value} (h : w.ownsRow base e size v n xs) (k : w.ownsRow base e size v n ys) : xs = ys := by
  rcases h.2 with ⟨hv, h0⟩ | ⟨g, c, cur, hv, _, hg, _, _, _, ht⟩
  · subst h0
    have h1 := h.1
    have h2 := k.1
    rw [Nat.zero_mul] at h1 h2
    rw [List.eq_nil_of_length_eq_zero h1, List.eq_nil_of_length_eq_zero h2]
  · rcases k.2 with ⟨kv, _⟩ | ⟨g', c', cur', kv, _, kg, _, _, _, kt⟩
    · rw [hv] at kv; cases kv
    · rw [hv] at kv
      injection kv with k1 _ _
      injection k1 with k1
      injection k1 with k1
      subst k1
      rw [hg] at kg
      injection kg with kg
      injection kg with kg
      rw [← ht, ← kt, kg]

structure Inner (wr : World) (B : Nat) (it : Itm) (s : ByteArray) (x : UInt8) (k : Nat) (v : Value) (wq : World) : Prop where
  blk : Blk wq wr.heap.size 52 #[.slice it.A it.len it.cap, .string s, v]
  mv : Mv wq v (it.len + k) (it.cs ++ List.replicate k x)
  below : Below B wr wq
  fr : ∀ q, q < wr.heap.size → it.home ≠ some q → wq.heap[q]? = wr.heap[q]?
  ok : ItOk wq B it
  own : ∀ g c, v = .slice (some ⟨g, 0, none⟩) (it.len + k) c → (it.home = some g ∧ c = it.cap) ∨ wr.heap.size < g

theorem Inner.home {wr : World} {B : Nat} {it : Itm} {s : ByteArray} {x : UInt8} {k : Nat} {v : Value} {wq : World} (h : Inner wr B it s x k v wq) {g : Nat} (hg : v.ownBlock = some g) : it.home = some g ∨ wr.heap.size < g := by
  rcases h.mv with ⟨rfl, _⟩ | ⟨g', c, rfl, _⟩
  · cases hg
  · have : g' = g := by simpa [Value.ownBlock] using hg
    subst this
    exact (h.own g' c rfl).imp And.left id

theorem Inner.far {wr : World} {B : Nat} {it : Itm} {s : ByteArray} {x : UInt8} {k : Nat} {v : Value} {wq : World} (h : Inner wr B it s x k v wq) (hlt : ∀ g, it.home = some g → g < wr.heap.size) : v.ownBlock ≠ some wr.heap.size := fun e => by
  rcases h.home e with e' | e'
  · have := hlt _ e'; omega
  · omega

theorem Try.infoH : (Try.prog.info? 52).map (fun i => (i.zero, i.size, i.bytes)) = some (some (.agg #[.slice none 0 0, .string "".toUTF8, .slice none 0 0]), 3, 64) := by kernel_rfl

theorem Inner.start {wr : World} {B : Nat} {it : Itm} {s : ByteArray} {x : UInt8} {wq : World} (hok : ItOk wr B it) (hB : B ≤ wr.heap.size) (hb : Blk wq wr.heap.size 52 #[.slice it.A it.len it.cap, .string s, .slice it.A it.len it.cap])
    (hw : Below wr.heap.size wr wq) : Inner wr B it s x 0 (.slice it.A it.len it.cap) wq := by
  have hok' : ItOk wq B it := hok.frame hw.size (fun k hk _ => hw.block k hk)
  refine ⟨hb, by simpa using hok'.mv, hw.mono hB, fun q hq _ => hw.block q hq, hok', fun g c e => .inl ?_⟩
  injection e with e1 e2 e3
  exact ⟨by unfold Itm.home; rw [e1]; rfl, e3.symm⟩

theorem Inner.step {wr : World} {B : Nat} {it : Itm} {s : ByteArray} {x : UInt8} {k : Nat} {v : Value} {wq w' : World} (h : Inner wr B it s x k v wq) (hB : B ≤ wr.heap.size) (hlt : ∀ g, it.home = some g → g < wr.heap.size) (g c : Nat)
    (hR : Rw w' g (it.len + k + 1) c (it.cs ++ List.replicate k x ++ [x])) (hor : v = .slice (some ⟨g, 0, none⟩) (it.len + k) c ∨ wq.heap.size ≤ g) (hfr : ∀ q, q < wq.heap.size → v.ownBlock ≠ some q → w'.heap[q]? = wq.heap[q]?)
    (hold : ∀ g0 c0, v = .slice (some ⟨g0, 0, none⟩) (it.len + k) c0 → Rw w' g0 (it.len + k) c0 (it.cs ++ List.replicate k x))
    (hbel : ∀ B', B' ≤ wq.heap.size → (∀ g0, v.ownBlock = some g0 → B' ≤ g0) → Below B' wq w') :
    Inner wr B it s x (k + 1) (.slice (some ⟨g, 0, none⟩) (it.len + k + 1) c) (w'.setCell ⟨wr.heap.size, 2, none⟩ (.slice (some ⟨g, 0, none⟩) (it.len + k + 1) c)) := by
  have hX : wr.heap.size < wq.heap.size := h.blk.lt
  have hnX : v.ownBlock ≠ some wr.heap.size := fun e => by
    rcases h.home e with e' | e'
    · have := hlt _ e'; omega
    · omega
  have hgX : g ≠ wr.heap.size := fun e => by
    rcases hor with e' | e'
    · exact hnX (by rw [e', ← e]; rfl)
    · omega
  have hset : ∀ q, q ≠ wr.heap.size → (w'.setCell ⟨wr.heap.size, 2, none⟩ (.slice (some ⟨g, 0, none⟩) (it.len + k + 1) c)).heap[q]? = w'.heap[q]? := fun q hq => Below.heap_setCell w' ⟨wr.heap.size, 2, none⟩ _ q hq
  have hsz : (w'.setCell ⟨wr.heap.size, 2, none⟩ (.slice (some ⟨g, 0, none⟩) (it.len + k + 1) c)).heap.size = w'.heap.size := by simp [World.setCell]
  have hb1 : Blk w' wr.heap.size 52 #[.slice it.A it.len it.cap, .string s, v] := (hfr _ hX hnX).trans h.blk
  have hbw := hbel B (by omega) (fun g0 e => by
    rcases h.home e with e' | e'
    · exact (h.ok.home_lt e').2
    · omega)
  have hR' : Rw (w'.setCell ⟨wr.heap.size, 2, none⟩ (.slice (some ⟨g, 0, none⟩) (it.len + k + 1) c)) g (it.len + k + 1) c (it.cs ++ List.replicate k x ++ [x]) := hR.frame (by rw [hsz]; exact Nat.le_refl _) (hset g hgX)
  have hcx : it.cs ++ List.replicate k x ++ [x] = it.cs ++ List.replicate (k + 1) x := by rw [List.append_assoc, List.replicate_succ']
  refine ⟨hb1.set_ 2 _, .inr ⟨g, c, rfl, by rw [← hcx]; exact hR'⟩, (h.below.trans hbw).setCell (p := ⟨wr.heap.size, 2, none⟩) hB _, fun q hq hne => ?_, ?_, fun g' c' e => ?_⟩
  · rw [hset q (by omega)]
    refine (hfr q (by omega) (fun e => ?_)).trans (h.fr q hq hne)
    rcases h.home e with e' | e'
    · exact hne e'
    · omega
  · rcases h.ok with h0 | ⟨g0, e0, hb0, hR0⟩
    · exact .inl h0
    · have hh0 : it.home = some g0 := by unfold Itm.home; rw [e0]; rfl
      refine .inr ⟨g0, e0, hb0, ?_⟩
      by_cases hv : v.ownBlock = some g0
      · rcases h.mv with ⟨rfl, _⟩ | ⟨g1, c1, rfl, hR1⟩
        · cases hv
        · have : g1 = g0 := by simpa [Value.ownBlock] using hv
          subst this
          have hc1 : c1 = it.cap := by
            rcases h.own g1 c1 rfl with e | e
            · exact e.2
            · have := hlt _ hh0; omega
          have h3 := ((hold g1 c1 rfl).take it.len (by omega)).frame (w' := w'.setCell ⟨wr.heap.size, 2, none⟩ (.slice (some ⟨g, 0, none⟩) (it.len + k + 1) c)) (by rw [hsz]; exact Nat.le_refl _) (hset g1 (by have := hlt _ hh0; omega))
          rw [List.take_left' h.ok.long] at h3
          rw [← hc1]; exact h3
      · exact hR0.frame (by rw [hsz]; exact hbw.size) ((hset g0 (by have := hlt _ hh0; omega)).trans (hfr g0 hR0.lt hv))
  · injection e with e1 _ e3
    injection e1 with e1
    injection e1 with e1
    subst e1; subst e3
    rcases hor with e | e
    · exact h.own _ _ e
    · exact .inr (by omega)

end Go.Proofs.Ytobfglnopihibaa
