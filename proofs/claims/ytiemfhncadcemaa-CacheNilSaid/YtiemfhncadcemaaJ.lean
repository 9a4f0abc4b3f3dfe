/- Write. -/
import Derived.Test.YtiemfhncadcemaaO
namespace Go.Proofs.Ytiemfhncadcemaa
open Go.RowKit Dsk

/-- append of one that is pending. -/
theorem Pend.push {w : World} {t T : TypeId} {E : Nat → Prop} {rv : Value} {P : List (Nat × List UInt8)} (h : Pend w t E rv P) (hT : Try.prog.underlying T = some (.slice t))
    (hI : (Try.prog.info? t).map (fun i => (i.zero, i.size, i.bytes)) = some (some (.agg #[.int .i64 0, .slice none 0 0]), 2, 32))
    (p : Nat × List UInt8) (v : Value) (hv : Sec w E v p.2) (b : Nat) (h0 : w.cell? ⟨b, 0, none⟩ = some (.int .i64 (p.1 : Int))) (h1 : w.cell? ⟨b, 1, none⟩ = some v) (hE : ∀ k, rv.ownBlock = some k → ¬ E k) (hr : P.length < 1000000) :
    ∃ v' w', (Builtin.append_ #[T, T] T #[rv, .slice (some ⟨b, 0, none⟩) 1 1]).run Try.prog w = .ok v' w' ∧ Pend w' t E v' (P ++ [p]) ∧ w.grownBy w' rv.ownBlock ∧ (v'.ownBlock = rv.ownBlock ∨ v'.ownBlock = some w.heap.size) := by
  obtain ⟨vs, hl, ho, hs⟩ := h.own
  obtain ⟨i0, hi, hz0, hz1, hz2⟩ := info_parts hI
  obtain ⟨A, c, rfl, hsec⟩ := hv
  have hcell : ∀ (j : Nat) (u : Value), [Value.int .i64 (p.1 : Int), .slice A p.2.length c][j]? = some u → w.cell? ((⟨b, 0, none⟩ : Addr).add j) = some u := fun j u hj => by
    have e2 : (⟨b, 0, none⟩ : Addr).add j = ⟨b, 0 + j, none⟩ := by unfold Addr.add; split <;> simp_all
    rw [e2, Nat.zero_add]
    rcases j with _ | _ | j
    · cases hj; exact h0
    · cases hj; exact h1
    · simp at hj
  obtain ⟨v', w', hrun, h2, h3, _, h5⟩ := run_append_own_at (P := Try.prog) w 0 T T t i0 (.agg #[.int .i64 0, .slice none 0 0]) 2 32 hT hi hz0 hz1 hz2 rfl (by decide) rv P.length _ ho ⟨b, 0, none⟩ 1 1 [.int .i64 (p.1 : Int), .slice A p.2.length c] (by simp) hcell
    (fun u hu => by rcases List.mem_cons.1 hu with rfl | hu
                    · rfl
                    · rw [List.mem_singleton.1 hu]; rfl) (by unfold maxLen; omega) (by omega) (Nat.zero_le _)
  have hsame : ∀ k, E k → k < w.heap.size → w'.heap[k]? = w.heap[k]? := fun k hk hlt => h3.block k hlt (fun e => hE k e.symm hk)
  refine ⟨v', w', hrun, ⟨vs ++ [.slice A p.2.length c], by simp [hl], ?_, fun k q hq => ?_⟩, h3, h5⟩
  · rw [List.length_append, List.length_singleton]
    have e : (P ++ [p]).map (·.1) = P.map (·.1) ++ [p.1] := by simp
    rw [e, List.zip_append (by simp [hl]), prow_append]
    exact h2
  · by_cases hk : k < P.length
    · rw [List.getElem?_append_left hk] at hq
      obtain ⟨u, e, hu⟩ := hs k q hq
      exact ⟨u, by rw [List.getElem?_append_left (by omega)]; exact e, hu.same h3.size hsame⟩
    · rw [List.getElem?_append_right (by omega)] at hq
      have hk0 : k - P.length = 0 := by
        have := (List.getElem?_eq_some_iff.1 hq).1
        simp at this; omega
      rw [hk0] at hq
      cases hq
      refine ⟨.slice A p.2.length c, by rw [List.getElem?_append_right (by omega), hl, hk0]; rfl, ?_⟩
      exact Sec.same ⟨A, c, rfl, hsec⟩ h3.size hsame

theorem Dk.mono {w : World} {E : Nat → Prop} {g gl gi : Nat} {rv : Value} {D : DS} (h : Dk w E g gl gi rv D) (G : Nat → Prop) (hG : ∀ k, G k → ¬ own4 g gl gi rv k) : Dk w (fun k => E k ∨ G k) g gl gi rv D :=
  ⟨h.ok, h.head, h.secs.mono fun _ => .inl, h.pend.mono fun _ => .inl, h.last, fun e => e.elim h.e1 fun e => hG _ e (.inl rfl), fun e => e.elim h.e2 fun e => hG _ e (.inr (.inl rfl)),
    fun e => e.elim h.e3 fun e => hG _ e (.inr (.inr (.inl rfl))), fun k hk => ⟨fun e => e.elim (h.e4 k hk).1 fun e => hG _ e (.inr (.inr (.inr hk))), (h.e4 k hk).2⟩, h.n1, h.n2, h.n3⟩

def pushD (D : DS) (s : Nat) (b : List UInt8) : DS := { D with P := D.P ++ [(s, b)] }
theorem pushD_ok {D : DS} (h : D.Ok) {s : Nat} {b : List UInt8} (hs : s < D.S.length) (hb : b.length = 256) : (pushD D s b).Ok :=
  ⟨h.lo, h.hi, h.sec, fun p hp => (List.mem_append.1 hp).elim (h.pend p) fun hp => by rw [List.mem_singleton.1 hp]; exact ⟨hs, hb⟩, h.armed⟩

/-- Behind the append, and both stores. -/
theorem Dk.pushed {w w2 : World} {E : Nat → Prop} {g gl gi : Nat} {rv v' : Value} {D : DS} (h : Dk w E g gl gi rv D) {s : Nat} {b : List UInt8} (hs : s < D.S.length) (hb : b.length = 256)
    (hp : Pend w2 79 E v' (D.P ++ [(s, b)])) (hg : w.grownBy w2 rv.ownBlock) (ho : v'.ownBlock = rv.ownBlock ∨ v'.ownBlock = some w.heap.size) (hEl : ∀ k, E k → k < w.heap.size) :
    Dk ((w2.setCell ⟨g, 1, none⟩ v').setCell ⟨gi, s, none⟩ (.int .i64 ((D.P.length : Int) + 1))) E g gl gi v' (pushD D s b) := by
  have hgl := h.secs.lt
  have hgi := h.last.lt
  have hgg := h.head.lt
  have far : ∀ k, k < w.heap.size → rv.ownBlock ≠ some k → w2.heap[k]? = w.heap[k]? := fun k hk hn => hg.block k hk (fun e => hn e.symm)
  have ng : rv.ownBlock ≠ some g := fun e => (h.e4 g e).2.1 rfl
  have nl : rv.ownBlock ≠ some gl := fun e => (h.e4 gl e).2.2.1 rfl
  have ni : rv.ownBlock ≠ some gi := fun e => (h.e4 gi e).2.2.2 rfl
  have nE : ∀ k, E k → rv.ownBlock ≠ some k := fun k hk e => (h.e4 k e).1 hk
  have vne : ∀ k, k < w.heap.size → rv.ownBlock ≠ some k → v'.ownBlock ≠ some k := fun k hk hn e => by
    rcases ho with ho | ho
    · exact hn (ho ▸ e)
    · rw [ho] at e; injection e with e; omega
  have st : ∀ k, k ≠ g → k ≠ gi → (((w2.setCell ⟨g, 1, none⟩ v').setCell ⟨gi, s, none⟩ (.int .i64 ((D.P.length : Int) + 1)))).heap[k]? = w2.heap[k]? := fun k h1 h2 => (Below.heap_setCell _ _ _ _ h2).trans (Below.heap_setCell _ _ _ _ h1)
  have sz : w2.heap.size = (((w2.setCell ⟨g, 1, none⟩ v').setCell ⟨gi, s, none⟩ (.int .i64 ((D.P.length : Int) + 1)))).heap.size := by simp [World.setCell]
  have En : ∀ k, E k → k ≠ g ∧ k ≠ gi := fun k hk => ⟨fun e => h.e1 (e ▸ hk), fun e => h.e3 (e ▸ hk)⟩
  refine ⟨pushD_ok h.ok hs hb, ?_, ?_, ?_, ?_, h.e1, h.e2, h.e3, fun k hk => ?_, h.n1, h.n2, h.n3⟩
  · have h1 : Blk w2 g _ _ := h.head.same (far g hgg ng)
    have h2 := (h1.set_ 1 v').far (p := ⟨gi, s, none⟩) h.n2 (.int .i64 ((D.P.length : Int) + 1))
    simp only [List.setIfInBounds_toArray, List.set_cons_succ, List.set_cons_zero] at h2
    exact h2
  · exact h.secs.same (Nat.le_trans hg.size (Nat.le_of_eq sz)) (fun k hk hl => (st k (En k hk).1 (En k hk).2).trans (far k hl (nE k hk))) ((st gl h.n1.symm h.n3).trans (far gl hgl nl))
  · exact hp.same (Nat.le_of_eq sz) (fun k hk _ => st k (En k hk).1 (En k hk).2) (fun k hk => st k (fun e => vne g hgg ng (e ▸ hk)) (fun e => vne gi hgi ni (e ▸ hk)))
  · have h1 : Lasts (w2.setCell ⟨g, 1, none⟩ v') gi D.S.length D.P := h.last.same ((Below.heap_setCell _ _ _ _ h.n2.symm).trans (far gi hgi ni))
    exact h1.write b
  · refine ⟨fun e => ?_, fun e => vne g hgg ng (e ▸ hk), fun e => vne gl hgl nl (e ▸ hk), fun e => vne gi hgi ni (e ▸ hk)⟩
    exact vne k (hEl k e) (nE k e) hk

end Go.Proofs.Ytiemfhncadcemaa
