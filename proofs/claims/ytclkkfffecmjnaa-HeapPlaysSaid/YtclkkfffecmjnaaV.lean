/- heap: Collect: what is let go. -/
import Derived.Test.YtclkkfffecmjnaaT
namespace Go.Proofs.Ytclkkfffecmjnaa
open Go.RowKit
def delL (k : Nat) (L : List Ho) : List Ho := L.filter fun x => decide (x.h ≠ k)
theorem atH_del (B : Nat → Nat) (k : Nat) (L : List Ho) : (fun j : Int => if j = (k : Int) then none else atH B L j) = atH B (delL k L) := by
  funext j
  unfold atH delL
  rw [find_filter]
  by_cases e : j = (k : Int)
  · rw [if_pos e, List.find?_eq_none.2 (fun p hp => by simp; omega)]; rfl
  · rw [if_neg e]
    congr 2
    funext p
    by_cases hp : (p.h : Int) = j
    · have : p.h ≠ k := by omega
      simp [hp, this]
    · have : ((p.h : Int) == j) = false := by simpa using hp
      simp [this]
theorem delL_one {x : Ho} : ∀ {L : List Ho}, L.Pairwise (fun x y => x.h < y.h) → x ∈ L → (delL x.h L).length + 1 = L.length ∧ Hp.total (delL x.h L) + Hp.sizeO x.o = Hp.total L
  | [], _, h => by cases h
  | y :: L, hp, h => by
    obtain ⟨h1, h2⟩ := List.pairwise_cons.1 hp
    rcases List.mem_cons.1 h with e | h
    · subst e
      have : delL x.h (x :: L) = L := by
        unfold delL
        rw [List.filter_cons, if_neg (by simp), List.filter_eq_self.2 (fun y hy => by have := h1 y hy; simp; omega)]
      rw [this]
      unfold Hp.total
      simp only [List.map_cons, List.sum_cons, List.length_cons]
      exact ⟨trivial, Nat.add_comm _ _⟩
    · have hne := h1 x h
      have : delL x.h (y :: L) = y :: delL x.h L := by unfold delL; rw [List.filter_cons, if_pos (by simp; omega)]
      have ih := delL_one h2 h
      rw [this]
      unfold Hp.total at ih ⊢
      rw [List.map_cons, List.sum_cons, List.map_cons, List.sum_cons, List.length_cons, List.length_cons]
      omega
/-- Only those of which K says so. -/
def cutH (H : HS) (K : Nat → Bool) : HS := { H with used := Hp.total (H.L.filter fun x => K x.h), L := H.L.filter fun x => K x.h, T := H.T.filter fun p => K p.1 }
theorem cutH_all {H : HS} {t : Nat} (hok : H.Ok t) {K : Nat → Bool} (hK : ∀ x ∈ H.L, K x.h = true) : cutH H K = H := by
  have e1 : (H.L.filter fun x => K x.h) = H.L := List.filter_eq_self.2 hK
  have e2 : (H.T.filter fun p => K p.1) = H.T := List.filter_eq_self.2 fun p hp => by
    obtain ⟨⟨x, hx, e⟩, _⟩ := hok.tied p hp
    rw [← e]; exact hK x hx
  unfold cutH
  rw [e1, e2, ← hok.sum]
theorem total_filter (p : Ho → Bool) : ∀ L : List Ho, Hp.total (L.filter p) ≤ Hp.total L
  | [] => Nat.le_refl _
  | x :: L => by
    have ih := total_filter p L
    rw [List.filter_cons]
    split <;> (unfold Hp.total at ih ⊢; simp only [List.map_cons, List.sum_cons]; omega)
theorem cutH_ok {H : HS} {t : Nat} (hok : H.Ok t) (K : Nat → Bool) : (cutH H K).Ok t where
  rise := hok.rise.sublist List.filter_sublist
  inn := fun x hx => hok.inn x (List.mem_filter.1 hx).1
  ties := hok.ties.sublist List.filter_sublist
  tied := fun p hp => by
    obtain ⟨h1, h2⟩ := List.mem_filter.1 hp
    obtain ⟨⟨x, hx, e⟩, h3⟩ := hok.tied p h1
    exact ⟨⟨x, List.mem_filter.2 ⟨hx, by rw [e]; exact h2⟩, e⟩, h3⟩
  dirty := fun x hx hd => by
    obtain ⟨h1, h2⟩ := List.mem_filter.1 hx
    obtain ⟨p, hp, e⟩ := hok.dirty x h1 hd
    exact ⟨p, List.mem_filter.2 ⟨hp, by rw [e]; exact h2⟩, e⟩
  stub := fun x hx hd => by
    obtain ⟨h1, h2⟩ := List.mem_filter.1 hx
    obtain ⟨p, hp, e⟩ := hok.stub x h1 hd
    exact ⟨p, List.mem_filter.2 ⟨hp, by rw [e.1]; exact h2⟩, e⟩
  sum := rfl
  room := by
    have := total_filter (fun x => K x.h) H.L
    have h1 := hok.room
    have h2 := hok.sum
    show Hp.total (H.L.filter fun x => K x.h) ≤ H.limit ∧ 1 ≤ H.limit ∧ H.limit ≤ 16777216
    omega
  cnt := hok.cnt
theorem cutH_del (H : HS) (K : Nat → Bool) (k : Nat) : ({ cutH H K with used := Hp.total (delL k (cutH H K).L), L := delL k (cutH H K).L, T := delT k (cutH H K).T } : HS) = cutH H (fun j => K j && decide (j ≠ k)) := by
  have e1 : delL k (cutH H K).L = H.L.filter fun x => (K x.h && decide (x.h ≠ k)) := by
    show (H.L.filter fun x => K x.h).filter (fun x => decide (x.h ≠ k)) = _
    rw [List.filter_filter]
    congr 1
    funext x
    rw [Bool.and_comm]
  have e2 : delT k (cutH H K).T = H.T.filter fun x => (K x.1 && decide (x.1 ≠ k)) := by
    show (H.T.filter fun x => K x.1).filter (fun x => decide (x.1 ≠ k)) = _
    rw [List.filter_filter]
    congr 1
    funext x
    rw [Bool.and_comm]
  rw [e1, e2]
  rfl
theorem World.ranges_same {w w' : World} {b r n cnt : Nat} {D : DataW Unit} {left : Lit → Bool} {P : Program} {k : TypeId} {R : Value → Option (DataW Unit × List MemPlace)} (h : w.ranges P k R b r n D left cnt) (hb : w'.heap[b]? = w.heap[b]?) (hr : w'.heap[r]? = w.heap[r]?) : w'.ranges P k R b r n D left cnt := by
  obtain ⟨es, clock, since, seen, c0, h1, F, hs, hD, h2, rest⟩ := h
  exact ⟨es, clock, since, seen, c0, hb.trans h1, F, hs, hD, hr.trans h2, rest⟩
section
variable {w wr w2 : World} {M : Mem} {n : Nat} {H : HS} {S : Int → Bool} {r : Nat}
/-- An object is gone. -/
theorem HM.gone (h : HM wr M n H) (k : Nat) (ho : Off (fun b => b = M.ob) wr w2) (hp : PMap w2 M.ob n (delL k H.L).length (atH M.B (delL k H.L))) : HM w2 M n { H with L := delL k H.L } := by
  have hs : ∀ b l, M.R b = l → l ≠ .mp 0 → l ≠ .no → w2.heap[b]? = wr.heap[b]? := fun b l e h1 h0 => ho.block b (h.lt b (by rw [e]; exact h0)) fun e' => h1 (by rw [← e, show b = M.ob from e', h.rob])
  refine ⟨h.head.same (hs _ _ h.rg (by intro e; cases e) (by intro e; cases e)), hp, h.ois.same (hs _ _ h.roi (by intro e; cases e) (by intro e; cases e)), h.has.same (hs _ _ h.rha (by intro e; cases e) (by intro e; cases e)), fun x hx => ?_, h.rg, h.rob, h.roi, h.rha, fun b hb => Nat.lt_of_lt_of_le (h.lt b hb) ho.size⟩
  obtain ⟨A, c, k⟩ := h.held x (List.mem_filter.1 hx).1
  exact ⟨A, c, k.off ho (fun b e => by rw [show b = M.ob from e, h.rob]; exact ⟨(fun e => by cases e), (fun e => by cases e)⟩) (fun b _ => rfl)⟩
theorem HM.take_out (h : HM wr M n H) (hp : H.L.Pairwise fun x y => x.h < y.h) {x : Ho} (hx : x ∈ H.L) (hwx : (Lit.int .i64 (x.h : Int)).wf = true) (ty : TypeId) :
    ∃ w', (Builtin.delete_ #[77, 3] ty #[.map (some M.ob), .int .i64 (x.h : Int)]).run Try.prog wr = .ok (.tuple #[]) w' ∧ HM w' M n { H with L := delL x.h H.L } ∧ Off (fun b => b = M.ob) wr w' := by
  obtain ⟨w', h1, h2, h3⟩ := h.obs.drop (x.h : Int) hwx ty
  have hs : (atH M.B H.L (x.h : Int)).isSome = true := by
    unfold atH
    rw [Option.isSome_map, List.find?_isSome]
    exact ⟨x, hx, by simp⟩
  rw [hs, if_pos rfl, atH_del] at h2
  have hl := (delL_one hp hx).1
  refine ⟨w', h1, h.gone x.h h3 ?_, h3⟩
  rw [show (delL x.h H.L).length = H.L.length - 1 by omega]
  exact h2
theorem strikeD {D : DataW Unit} {B : Nat → Nat} {L : List Ho} {k : Nat} (hS : ∀ i : Int, (Lit.int .i64 i).wf = true → D.atKey (.int .i64 i) (refD none) = refD (atH B L i) ∧ Maps.has D (.int .i64 i) = (atH B L i).isSome) :
    ∀ i : Int, (Lit.int .i64 i).wf = true → (D.del (.int .i64 (k : Int))).atKey (.int .i64 i) (refD none) = refD (atH B (delL k L) i) ∧ Maps.has (D.del (.int .i64 (k : Int))) (.int .i64 i) = (atH B (delL k L) i).isSome := fun i hi => by
  rw [← atH_del]
  dsimp only
  by_cases e : i = (k : Int)
  · subst e
    rw [if_pos rfl]
    exact ⟨Maps.atKey_del_same _, Maps.has_del_same⟩
  · rw [if_neg e]
    exact ⟨(Maps.atKey_del_other (by simpa using e) _).trans (hS i hi).1, (Maps.has_del_other (by simpa using e)).trans (hS i hi).2⟩
theorem strikeSub {D : DataW Unit} {left : Lit → Bool} {k : Nat} (h : ∀ z, (left z && !z.sameKey (.int .i64 (k : Int))) = true → Maps.has D z = true) : ∀ z, (left z && !z.sameKey (.int .i64 (k : Int))) = true → Maps.has (D.del (.int .i64 (k : Int))) z = true := fun z hz => by
  rw [Maps.has_del_other (fun e => ?_)]
  · exact h z hz
  · rw [e, WideAt.sameKey_self (by simp [WideAt.IsKeyLit])] at hz
    simp at hz
/-- What stays of Collect's blocks while it lets go. -/
structure CoK (w wr : World) (M : Mem) (H : HS) (S : Int → Bool) (r : Nat) : Prop where
  ch : Blk wr w.heap.size 25 #[.pointer (some ⟨M.g, 0, none⟩)]
  cr : Blk wr (w.heap.size + 2) 96 #[.map (some (w.heap.size + 1))]
  km : KMap wr (w.heap.size + 1) (nS H S) (nS H S) S
  off : Off (fun b => M.R b ≠ .no) w wr
  far : ∀ b, M.R b ≠ .no → b < w.heap.size
  new : w.heap.size + 4 ≤ r
theorem CoK.step (h : CoK w wr M H S r) (ho : Off (fun b => M.R b ≠ .no ∨ b = r) wr w2) : CoK w w2 M H S r := by
  have hne : ∀ b, w.heap.size ≤ b → b < w.heap.size + 4 → ¬ (M.R b ≠ .no ∨ b = r) := fun b h1 h2 e => by
    rcases e with e | e
    · have := h.far b e; omega
    · have := h.new; omega
  refine ⟨h.ch.same (ho.block _ h.ch.lt (hne _ (by omega) (by omega))), h.cr.same (ho.block _ h.cr.lt (hne _ (by omega) (by omega))), h.km.same (ho.block _ h.km.lt (hne _ (by omega) (by omega))), ?_, h.far, h.new⟩
  refine ⟨ho.os.trans h.off.os, ho.tape.trans h.off.tape, ho.output.trans h.off.output, Nat.le_trans h.off.size ho.size, fun b hb hn => (ho.block b (Nat.lt_of_lt_of_le hb h.off.size) fun e => ?_).trans (h.off.block b hb hn)⟩
  rcases e with e | e
  · exact hn e
  · have := h.new; omega
/-- What is still there while Collect lets go. -/
def keepK (S : Int → Bool) (left : Lit → Bool) (j : Nat) : Bool := S (j : Int) || left (.int .i64 (j : Int))
theorem keepK_stays {left : Lit → Bool} {k : Nat} (hs : S (k : Int) = true) : keepK S (fun z => left z && !z.sameKey (.int .i64 (k : Int))) = keepK S left := by
  funext j
  unfold keepK
  dsimp only
  rw [same_int]
  by_cases e : j = k
  · subst e; rw [hs]; simp
  · have : ¬ ((j : Int) = (k : Int)) := by omega
    simp [this]
theorem keepK_goes {left : Lit → Bool} {k : Nat} (hs : S (k : Int) = false) : keepK S (fun z => left z && !z.sameKey (.int .i64 (k : Int))) = fun j => keepK S left j && decide (j ≠ k) := by
  funext j
  unfold keepK
  dsimp only
  rw [same_int]
  by_cases e : j = k
  · subst e; rw [hs]; simp
  · have : ¬ ((j : Int) = (k : Int)) := by omega
    simp [this, e]
/-- How many are reached, or more: for the list. -/
theorem CoI.meas {X : Nat → Prop} {V : List Nat} (h : CoI w wr M n H X S V) : 2 * (H.L.length - mapLen wr (w.heap.size + 1)) + listLen wr (w.heap.size + 3) = todo H S V := by
  rw [h.km.count]
  obtain ⟨A0, l0, c0, hb, _, hl, _⟩ := h.cl
  have e := hb.cell 0
  simp only [List.getElem?_toArray, List.getElem?_cons_zero] at e
  unfold listLen todo
  rw [e, ← hl]
theorem CoI.wide {X : Nat → Prop} {V : List Nat} (h : CoI w wr M n H X S V) : CoI w wr M n H (fun b => X b ∨ M.R b ≠ .no) S V := by
  obtain ⟨A, l, c, h1, h2, h3, h4⟩ := h.cl
  refine ⟨h.hm, h.ch, h.cr, h.km, ⟨A, l, c, h1, h2, h3, fun j hj => ⟨(h4 j hj).1, fun e => ?_⟩⟩, h.bel, h.far, fun b hb => ?_⟩
  · rcases e with e | e
    · exact (h4 j hj).2 e
    · have := h.far j e; have := (h4 j hj).1; omega
  · rcases hb with hb | hb
    · exact h.hx b hb
    · have := h.far b hb; exact ⟨by have := h.bel.size; omega, .inl this⟩
theorem CoI.less {X Y : Nat → Prop} {V : List Nat} (h : CoI w wr M n H X S V) (hY : ∀ b, Y b → X b) : CoI w wr M n H Y S V := by
  obtain ⟨A, l, c, h1, h2, h3, h4⟩ := h.cl
  exact ⟨h.hm, h.ch, h.cr, h.km, ⟨A, l, c, h1, h2, h3, fun j hj => ⟨(h4 j hj).1, fun e => (h4 j hj).2 (hY j e)⟩⟩, h.bel, h.far, fun b hb => h.hx b (hY b hb)⟩
/-- While the words of one object are gone through. -/
def CoW (w wr : World) (M : Mem) (n : Nat) (H : HS) (Y : Nat → Prop) (R0 : Int → Prop) (x : Ho) (T i : Nat) : Prop :=
  ∃ S V, CoI w wr M n H Y S V ∧ CInv H R0 S V ∧ ClosedX H S V (some x.h) ∧ (∀ y ∈ H.L, R0 (y.h : Int) → S (y.h : Int) = true) ∧ S (x.h : Int) = true ∧ todo H S V ≤ T ∧ ∀ z ∈ x.o.ws.take i, z.k = 2 → ∀ y ∈ H.L, (y.h : Int) = z.n → S (y.h : Int) = true
theorem CoW.skip {Y : Nat → Prop} {R0 : Int → Prop} {x : Ho} {T i : Nat} {z : Wd} (h : CoW w wr M n H Y R0 x T i) (hz : x.o.ws[i]? = some z) (hk : z.k ≠ 2) (hb : Below wr.heap.size wr w2) : CoW w w2 M n H Y R0 x T (i + 1) := by
  obtain ⟨S, V, h1, h2, h3, h4, h5, h6, h7⟩ := h
  refine ⟨S, V, h1.below hb, h2, h3, h4, h5, h6, fun z' hz' hk' => ?_⟩
  obtain ⟨hj, e⟩ := List.getElem?_eq_some_iff.1 hz
  rw [List.take_succ_eq_append_getElem hj, e] at hz'
  rcases List.mem_append.1 hz' with h | h
  · exact h7 z' h hk'
  · rw [List.mem_singleton.1 h] at hk'; exact absurd hk' hk
theorem CoW.next {Y : Nat → Prop} {R0 : Int → Prop} {x : Ho} {T i : Nat} {z : Wd} {V : List Nat} {t : Nat} (hok : H.Ok t) (hx : x ∈ H.L) (hr : Reach H R0 x.h) (hz : x.o.ws[i]? = some z) (hk : z.k = 2) (h1 : CoI w w2 M n H Y (reachS H S z.n) (reachV H S V z.n)) (h2 : CInv H R0 S V) (h3 : ClosedX H S V (some x.h))
    (h4 : ∀ y ∈ H.L, R0 (y.h : Int) → S (y.h : Int) = true) (h5 : S (x.h : Int) = true) (h6 : todo H S V ≤ T) (h7 : ∀ z ∈ x.o.ws.take i, z.k = 2 → ∀ y ∈ H.L, (y.h : Int) = z.n → S (y.h : Int) = true) : CoW w w2 M n H Y R0 x T (i + 1) := by
  obtain ⟨hj, e⟩ := List.getElem?_eq_some_iff.1 hz
  obtain ⟨g1, g2⟩ := h2.reach hok z.n fun y hy ey => .step hx hr (List.mem_of_getElem? hz) hk hy ey
  refine ⟨_, _, h1, g1, h3.reach _, fun y hy h0 => reachS_keep _ _ (h4 y hy h0), reachS_keep _ _ h5, Nat.le_trans g2 h6, fun z' hz' hk' y hy ey => ?_⟩
  rw [List.take_succ_eq_append_getElem hj, e] at hz'
  rcases List.mem_append.1 hz' with h | h
  · exact reachS_keep _ _ (h7 z' h hk' y hy ey)
  · have h : z' = z := List.mem_singleton.1 h
    rw [h] at ey
    rw [ey]
    exact reachS_hit (by rw [obj_mem hok hy ey]; rfl)
theorem CoW.done {X Y : Nat → Prop} {R0 : Int → Prop} {x : Ho} {T : Nat} (hp : H.L.Pairwise fun x y => x.h < y.h) (hx : x ∈ H.L) (h : CoW w wr M n H Y R0 x T x.o.ws.length) (hX : ∀ b, X b → Y b) : ∃ S V, CoI w wr M n H X S V ∧ CInv H R0 S V ∧ ClosedX H S V none ∧ (∀ y ∈ H.L, R0 (y.h : Int) → S (y.h : Int) = true) ∧ todo H S V ≤ T := by
  obtain ⟨S, V, h1, h2, h3, h4, h5, h6, h7⟩ := h
  rw [List.take_length] at h7
  refine ⟨S, V, h1.less hX, h2, fun y hy hs hv _ z hz hzk u hu e => ?_, h4, h6⟩
  by_cases ex : y.h = x.h
  · rw [HS.uniq hp hy hx ex] at hz
    exact h7 z hz hzk u hu e
  · exact h3 y hy hs hv (fun e' => ex (Option.some.inj e')) z hz hzk u hu e
end
end Go.Proofs.Ytclkkfffecmjnaa
