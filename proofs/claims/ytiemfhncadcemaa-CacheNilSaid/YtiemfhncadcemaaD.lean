/- A disk in memory. -/
import Derived.Test.YtiemfhncadcemaaF
import Derived.Test.YtiemfhncadcemaaS
namespace Go.Proofs.Ytiemfhncadcemaa
open Go.RowKit Dsk

def prow : List (Nat × Value) → List Value
  | [] => []
  | p :: r => .int .i64 (p.1 : Int) :: p.2 :: prow r
theorem prow_length : ∀ l, (prow l).length = 2 * l.length
  | [] => rfl
  | p :: r => by simp [prow, prow_length r]; omega
theorem prow_append : ∀ l m, prow (l ++ m) = prow l ++ prow m
  | [], _ => rfl
  | p :: r, m => by simp [prow, prow_append r m]
theorem prow_get : ∀ (l : List (Nat × Value)) (k : Nat) (p : Nat × Value), l[k]? = some p → (prow l)[2 * k]? = some (.int .i64 (p.1 : Int)) ∧ (prow l)[2 * k + 1]? = some p.2
  | [], k, p, h => by simp at h
  | q :: r, 0, p, h => by simp at h; subst h; exact ⟨rfl, rfl⟩
  | q :: r, k + 1, p, h => by
    have := prow_get r k p (by simpa using h)
    rw [show 2 * (k + 1) = 2 * k + 1 + 1 by omega]
    simpa [prow] using this

/-- What is pending, in memory: the slice value rv, of blocks of type t. -/
structure Pend (w : World) (t : TypeId) (E : Nat → Prop) (rv : Value) (P : List (Nat × List UInt8)) : Prop where
  own : ∃ vs : List Value, vs.length = P.length ∧ w.ownsRow 0 t 2 rv P.length (prow ((P.map (·.1)).zip vs)) ∧ ∀ (k : Nat) (p : Nat × List UInt8), P[k]? = some p → ∃ v, vs[k]? = some v ∧ Sec w E v p.2

theorem Pend.nil (w : World) (t : TypeId) (E : Nat → Prop) : Pend w t E (.slice none 0 0) [] := ⟨[], rfl, World.ownsRow_nil _ _ _ _, fun k p h => by simp at h⟩
theorem Pend.shape {w : World} {t : TypeId} {E : Nat → Prop} {rv : Value} {P : List (Nat × List UInt8)} (h : Pend w t E rv P) : ∃ A c, rv = .slice A P.length c ∧ P.length ≤ c ∧ c ≤ maxLen := by
  obtain ⟨vs, _, ho, _⟩ := h.own
  rcases ho.2 with ⟨rfl, h0⟩ | ⟨g, cap, cur, rfl, _, _, h1, h2, _⟩
  · exact ⟨none, 0, by rw [h0], by omega, Nat.zero_le _⟩
  · exact ⟨_, _, rfl, h1, h2⟩
theorem Pend.same {w w' : World} {t : TypeId} {E : Nat → Prop} {rv : Value} {P : List (Nat × List UInt8)} (h : Pend w t E rv P) (hs : w.heap.size ≤ w'.heap.size)
    (hE : ∀ k, E k → k < w.heap.size → w'.heap[k]? = w.heap[k]?) (hr : ∀ k, rv.ownBlock = some k → w'.heap[k]? = w.heap[k]?) : Pend w' t E rv P := by
  obtain ⟨vs, hl, ho, hv⟩ := h.own
  refine ⟨vs, hl, ⟨ho.1, ?_⟩, fun k p hp => ?_⟩
  · rcases ho.2 with h0 | ⟨g, cap, cur, rfl, h1, h2, h3⟩
    · exact .inl h0
    · exact .inr ⟨g, cap, cur, rfl, h1, (hr g rfl).trans h2, h3⟩
  · obtain ⟨v, e, hs'⟩ := hv k p hp
    exact ⟨v, e, hs'.same hs hE⟩
theorem Pend.mono {w : World} {t : TypeId} {E E' : Nat → Prop} {rv : Value} {P : List (Nat × List UInt8)} (h : Pend w t E rv P) (hE : ∀ k, E k → E' k) : Pend w t E' rv P := by
  obtain ⟨vs, hl, ho, hv⟩ := h.own
  exact ⟨vs, hl, ho, fun k p hp => by obtain ⟨v, e, hs⟩ := hv k p hp; exact ⟨v, e, hs.mono hE⟩⟩
theorem Pend.lt {w : World} {t : TypeId} {E : Nat → Prop} {rv : Value} {P : List (Nat × List UInt8)} (h : Pend w t E rv P) (k : Nat) (hk : rv.ownBlock = some k) : k < w.heap.size := by
  obtain ⟨vs, hl, ho, hv⟩ := h.own
  exact (ho.lt k hk).2
/-- The k-th that is pending. -/
theorem Pend.at_ {w : World} {t : TypeId} {E : Nat → Prop} {rv : Value} {P : List (Nat × List UInt8)} (h : Pend w t E rv P) {k : Nat} {p : Nat × List UInt8} (hp : P[k]? = some p) :
    ∃ r c v, rv = .slice (some ⟨r, 0, none⟩) P.length c ∧ r < w.heap.size ∧ w.cell? ⟨r, k * 2, none⟩ = some (.int .i64 (p.1 : Int)) ∧ w.cell? ⟨r, k * 2 + 1, none⟩ = some v ∧ Sec w E v p.2 := by
  obtain ⟨vs, hl, ho, hv⟩ := h.own
  obtain ⟨v, e, hs⟩ := hv k p hp
  have hk : k < P.length := (List.getElem?_eq_some_iff.1 hp).1
  have hz : ((P.map (·.1)).zip vs)[k]? = some (p.1, v) := by
    rw [List.getElem?_zip_eq_some]
    exact ⟨by rw [List.getElem?_map, hp]; rfl, e⟩
  obtain ⟨g1, g2⟩ := prow_get _ k _ hz
  rcases ho.2 with ⟨rfl, h0⟩ | ⟨g, cap, cur, rfl, h1, h2, h3⟩
  · omega
  · have c1 := ho.cellAt (k * 2) (by omega)
    have c2 := ho.cellAt (k * 2 + 1) (by omega)
    rw [Nat.mul_comm k 2] at c1 c2
    exact ⟨g, cap, v, rfl, (ho.lt g rfl).2, by rw [Nat.mul_comm k 2, c1, g1], by rw [Nat.mul_comm k 2, c2, g2], hs⟩

/-- Sectors in a block. -/
structure Secs (w : World) (E : Nat → Prop) (g : Nat) (S : List (List UInt8)) : Prop where
  blk : ∃ ls : Array Value, Blk w g 33 ls ∧ S.length ≤ ls.size ∧ ∀ (k : Nat) (b : List UInt8), S[k]? = some b → ∃ v, ls[k]? = some v ∧ Sec w E v b
theorem Secs.lt {w : World} {E : Nat → Prop} {g : Nat} {S : List (List UInt8)} (h : Secs w E g S) : g < w.heap.size := by obtain ⟨ls, h1, _⟩ := h.blk; exact h1.lt
theorem Secs.same {w w' : World} {E : Nat → Prop} {g : Nat} {S : List (List UInt8)} (h : Secs w E g S) (hs : w.heap.size ≤ w'.heap.size)
    (hE : ∀ k, E k → k < w.heap.size → w'.heap[k]? = w.heap[k]?) (hg : w'.heap[g]? = w.heap[g]?) : Secs w' E g S := by
  obtain ⟨ls, h1, h2, h3⟩ := h.blk
  exact ⟨ls, h1.same hg, h2, fun k b hb => by obtain ⟨v, e, hv⟩ := h3 k b hb; exact ⟨v, e, hv.same hs hE⟩⟩
theorem Secs.mono {w : World} {E E' : Nat → Prop} {g : Nat} {S : List (List UInt8)} (h : Secs w E g S) (hE : ∀ k, E k → E' k) : Secs w E' g S := by
  obtain ⟨ls, h1, h2, h3⟩ := h.blk
  exact ⟨ls, h1, h2, fun k b hb => by obtain ⟨v, e, hv⟩ := h3 k b hb; exact ⟨v, e, hv.mono hE⟩⟩
theorem Secs.at_ {w : World} {E : Nat → Prop} {g : Nat} {S : List (List UInt8)} (h : Secs w E g S) {k : Nat} {b : List UInt8} (hb : S[k]? = some b) : ∃ v, w.cell? ⟨g, k, none⟩ = some v ∧ Sec w E v b := by
  obtain ⟨ls, h1, h2, h3⟩ := h.blk
  obtain ⟨v, e, hv⟩ := h3 k b hb
  exact ⟨v, by rw [h1.cell, e], hv⟩
theorem Secs.free {w : World} {E : Nat → Prop} {g : Nat} {S : List (List UInt8)} (h : Secs w E g S) (k : Nat) : w.frozen? ⟨g, k, none⟩ = false := by
  obtain ⟨ls, h1, _⟩ := h.blk; exact h1.frozen k
/-- A sector is turned. -/
theorem Secs.set_ {w : World} {E : Nat → Prop} {g : Nat} {S : List (List UInt8)} (h : Secs w E g S) (hg : ¬ E g) (k : Nat) (v : Value) (b : List UInt8) (hv : Sec w E v b) : Secs (w.setCell ⟨g, k, none⟩ v) E g (S.set k b) := by
  obtain ⟨ls, h1, h2, h3⟩ := h.blk
  have hf : ∀ {u : Value} {c : List UInt8}, Sec w E u c → Sec (w.setCell ⟨g, k, none⟩ v) E u c := fun hu => hu.same (by simp [World.setCell]) fun j hj _ => Below.heap_setCell _ _ _ _ (fun e => hg (by rw [← show j = g from e]; exact hj))
  refine ⟨ls.setIfInBounds k v, h1.set_ k v, by simpa using h2, fun j c hc => ?_⟩
  by_cases e : j = k
  · subst e
    have hj : j < S.length := by simpa using (List.getElem?_eq_some_iff.1 hc).1
    rw [List.getElem?_set_self hj] at hc
    cases hc
    exact ⟨v, by rw [Array.getElem?_setIfInBounds_self, if_pos (by omega)], hf hv⟩
  · rw [List.getElem?_set_ne (fun e' => e e'.symm)] at hc
    obtain ⟨u, e1, hu⟩ := h3 j c hc
    exact ⟨u, by rw [Array.getElem?_setIfInBounds_ne (fun e' => e e'.symm)]; exact e1, hf hu⟩

/-- Of each sector the place of its last write. -/
structure Lasts (w : World) (g n : Nat) (P : List (Nat × List UInt8)) : Prop where
  blk : ∃ li : Array Value, Blk w g 3 li ∧ li.size = n ∧ ∀ s, s < n → li[s]? = some (.int .i64 (lastAt P s : Int))
theorem Lasts.same {w w' : World} {g n : Nat} {P : List (Nat × List UInt8)} (h : Lasts w g n P) (hg : w'.heap[g]? = w.heap[g]?) : Lasts w' g n P := by
  obtain ⟨li, h1, h2, h3⟩ := h.blk
  exact ⟨li, h1.same hg, h2, h3⟩
theorem Lasts.lt {w : World} {g n : Nat} {P : List (Nat × List UInt8)} (h : Lasts w g n P) : g < w.heap.size := by obtain ⟨ls, h1, _⟩ := h.blk; exact h1.lt
theorem Lasts.at_ {w : World} {g n : Nat} {P : List (Nat × List UInt8)} (h : Lasts w g n P) {s : Nat} (hs : s < n) : w.cell? ⟨g, s, none⟩ = some (.int .i64 (lastAt P s : Int)) := by
  obtain ⟨li, h1, h2, h3⟩ := h.blk
  rw [h1.cell, h3 s hs]
theorem Lasts.free {w : World} {g n : Nat} {P : List (Nat × List UInt8)} (h : Lasts w g n P) (k : Nat) : w.frozen? ⟨g, k, none⟩ = false := by
  obtain ⟨ls, h1, _⟩ := h.blk; exact h1.frozen k
theorem Lasts.write {w : World} {g n : Nat} {P : List (Nat × List UInt8)} (h : Lasts w g n P) {s : Nat} (b : List UInt8) : Lasts (w.setCell ⟨g, s, none⟩ (.int .i64 ((P.length : Int) + 1))) g n (P ++ [(s, b)]) := by
  obtain ⟨li, h1, h2, h3⟩ := h.blk
  refine ⟨_, h1.set_ s _, by simp [h2], fun j hj => ?_⟩
  rw [lastAt_snoc]
  by_cases e : s = j
  · subst e; simp [h2, hj]
  · rw [if_neg (by simpa using e), Array.getElem?_setIfInBounds_ne e]; exact h3 j hj

/-- The blocks that a disk turns: its own, its sectors', its row's, its last ones'. -/
def own4 (g gl gi : Nat) (rv : Value) : Nat → Prop := fun k => k = g ∨ k = gl ∨ k = gi ∨ rv.ownBlock = some k

structure Dk (w : World) (E : Nat → Prop) (g gl gi : Nat) (rv : Value) (D : DS) : Prop where
  ok : D.Ok
  head : Blk w g 62 #[.slice (some ⟨gl, 0, none⟩) D.S.length D.S.length, rv, .slice (some ⟨gi, 0, none⟩) D.S.length D.S.length, .bool D.dead, .int .i64 (D.armed : Int), .int .i64 (D.steps : Int)]
  secs : Secs w E gl D.S
  pend : Pend w 79 E rv D.P
  last : Lasts w gi D.S.length D.P
  e1 : ¬ E g
  e2 : ¬ E gl
  e3 : ¬ E gi
  e4 : ∀ k, rv.ownBlock = some k → ¬ E k ∧ k ≠ g ∧ k ≠ gl ∧ k ≠ gi
  n1 : g ≠ gl
  n2 : g ≠ gi
  n3 : gl ≠ gi

/-- A disk with all its blocks among F. -/
def Disk (w : World) (F : Nat → Prop) (g : Nat) (D : DS) : Prop :=
  ∃ E gl gi rv, Dk w E g gl gi rv D ∧ (∀ k, E k → F k) ∧ (∀ k, own4 g gl gi rv k → F k) ∧ ∀ k, F k → k < w.heap.size

theorem Dk.own_lt {w : World} {E : Nat → Prop} {g gl gi : Nat} {rv : Value} {D : DS} (h : Dk w E g gl gi rv D) : ∀ k, own4 g gl gi rv k → k < w.heap.size ∧ ¬ E k := fun k hk => by
  rcases hk with rfl | rfl | rfl | hk
  · exact ⟨h.head.lt, h.e1⟩
  · exact ⟨h.secs.lt, h.e2⟩
  · exact ⟨h.last.lt, h.e3⟩
  · exact ⟨h.pend.lt k hk, (h.e4 k hk).1⟩

theorem Dk.same {w w' : World} {E : Nat → Prop} {g gl gi : Nat} {rv : Value} {D : DS} (h : Dk w E g gl gi rv D) (hs : w.heap.size ≤ w'.heap.size)
    (he : ∀ k, k < w.heap.size → E k ∨ own4 g gl gi rv k → w'.heap[k]? = w.heap[k]?) : Dk w' E g gl gi rv D :=
  ⟨h.ok, h.head.same (he g h.head.lt (.inr (.inl rfl))), h.secs.same hs (fun k hk hl => he k hl (.inl hk)) (he gl h.secs.lt (.inr (.inr (.inl rfl)))),
    h.pend.same hs (fun k hk hl => he k hl (.inl hk)) (fun k hk => he k (h.pend.lt k hk) (.inr (.inr (.inr (.inr hk))))), h.last.same (he gi h.last.lt (.inr (.inr (.inr (.inl rfl))))),
    h.e1, h.e2, h.e3, h.e4, h.n1, h.n2, h.n3⟩

theorem Dk.drew {w : World} {E : Nat → Prop} {g gl gi : Nat} {rv : Value} {D : DS} (h : Dk w E g gl gi rv D) : Dk w.drew E g gl gi rv D := h.same (Nat.le_refl _) (fun _ _ _ => rfl)

theorem Disk.off {w w' : World} {F G : Nat → Prop} {g : Nat} {D : DS} (h : Disk w F g D) (ho : Off G w w') (hd : ∀ k, F k → ¬ G k) : Disk w' F g D := by
  obtain ⟨E, gl, gi, rv, hk, h1, h2, h3⟩ := h
  exact ⟨E, gl, gi, rv, hk.same ho.size fun k hlt hk' => ho.block k hlt (hd k (hk'.elim (h1 k) (h2 k))), h1, h2, fun k hk => Nat.lt_of_lt_of_le (h3 k hk) ho.size⟩
theorem Disk.below {w w' : World} {F : Nat → Prop} {g : Nat} {D : DS} (h : Disk w F g D) (hb : Below w.heap.size w w') : Disk w' F g D :=
  h.off (Off.of_new hb fun _ => False) (fun _ _ => id)
theorem Disk.lt {w : World} {F : Nat → Prop} {g : Nat} {D : DS} (h : Disk w F g D) : ∀ k, F k → k < w.heap.size := by obtain ⟨_, _, _, _, _, _, _, h3⟩ := h; exact h3
theorem Disk.has {w : World} {F : Nat → Prop} {g : Nat} {D : DS} (h : Disk w F g D) : F g := by obtain ⟨_, _, _, _, _, _, h2, _⟩ := h; exact h2 g (.inl rfl)
theorem Disk.ok {w : World} {F : Nat → Prop} {g : Nat} {D : DS} (h : Disk w F g D) : D.Ok := by obtain ⟨_, _, _, _, h, _⟩ := h; exact h.ok

end Go.Proofs.Ytiemfhncadcemaa
