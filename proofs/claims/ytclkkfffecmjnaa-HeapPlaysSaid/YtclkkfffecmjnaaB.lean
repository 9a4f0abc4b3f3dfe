/- heap: its state, apart from memory, and in memory. -/
import Derived.Test.YtclkkfffecmjnaaA
namespace Go.Proofs.Ytclkkfffecmjnaa
open Go.RowKit

theorem offS {G : Nat → Prop} {w w1 : World} (h : Off G w w1) (g i : Nat) (v : Value) (hg : G g) : Off G w (w1.setCell ⟨g, i, none⟩ v) := h.trans ((Off.setc w1 g i v).mono fun k _ e => by have e' : k = g := e; rw [e']; exact hg)
/-- An object by its handle. -/
structure Ho where
  h : Nat
  o : Ob
  dirty : Bool
/-- What a heap says. -/
structure HS where
  limit : Nat
  used : Nat
  count : Nat
  L : List Ho
  T : List (Nat × Nat)
namespace Hp
def sizeO (o : Ob) : Nat := if o.k = 8 then 1 else 1 + o.ws.length + (o.t.length + 7) / 8
def wordOk (x : Wd) : Bool := decide (x.k = 1) || decide (x.k = 2)
/-- Of a kind: how many words at least, at most (of n), and the greatest tag. -/
def kindO (k n : Nat) : Option (Nat × Nat × Nat) :=
  if k = 1 then some (2, n, 0) else if k = 2 ∨ k = 6 then some (0, 1, 65535) else if k = 3 then some (1, 1, 0) else if k = 4 then some (0, n, 0) else if k = 7 then some (0, n, 65535) else if k = 5 then some (0, 0, 0) else if k = 8 then some (0, 0, 16384) else none
def mayO (o : Ob) : Bool := match kindO o.k o.ws.length with
  | none => false
  | some (least, most, tags) => decide (least ≤ o.ws.length) && decide (o.ws.length ≤ most) && decide (0 ≤ o.tag) && decide (o.tag ≤ tags) && (decide (o.k ≠ 8) || decide (0 < o.tag)) && (decide (o.k = 5) || o.t.isEmpty) && o.ws.all wordOk
def small (o : Ob) : Prop := o.ws.length ≤ 100000 ∧ o.t.length ≤ 100000 ∧ o.k < 256
def total (L : List Ho) : Nat := (L.map fun x => sizeO x.o).sum
theorem sizeO_pos (o : Ob) : 1 ≤ sizeO o := by unfold sizeO; split <;> omega
end Hp
namespace HS
def obj (H : HS) (k : Int) : Option Ho := H.L.find? fun x => (x.h : Int) == k
def oidOf (H : HS) (k : Int) : Option Nat := (H.T.find? fun p => (p.1 : Int) == k).map Prod.snd
def ofOid (H : HS) (o : Int) : Option Nat := (H.T.find? fun p => (p.2 : Int) == o).map Prod.fst
/-- A state that may be; t bounds what was done. -/
structure Ok (H : HS) (t : Nat) : Prop where
  rise : H.L.Pairwise fun x y => x.h < y.h
  inn : ∀ x ∈ H.L, 1 ≤ x.h ∧ x.h ≤ H.count ∧ Hp.small x.o ∧ Hp.mayO x.o = true
  ties : H.T.Pairwise fun p q => p.1 ≠ q.1 ∧ p.2 ≠ q.2
  tied : ∀ p ∈ H.T, (∃ x ∈ H.L, x.h = p.1) ∧ 1 ≤ p.2 ∧ p.2 ≤ 16384
  dirty : ∀ x ∈ H.L, x.dirty = true → ∃ p ∈ H.T, p.1 = x.h
  stub : ∀ x ∈ H.L, x.o.k = 8 → ∃ p ∈ H.T, p.1 = x.h ∧ (p.2 : Int) = x.o.tag
  sum : H.used = Hp.total H.L
  room : H.used ≤ H.limit ∧ 1 ≤ H.limit ∧ H.limit ≤ 16777216
  cnt : H.count ≤ t
theorem Ok.mono {H : HS} {t u : Nat} (h : H.Ok t) (hu : t ≤ u) : H.Ok u := ⟨h.rise, h.inn, h.ties, h.tied, h.dirty, h.stub, h.sum, h.room, Nat.le_trans h.cnt hu⟩
theorem obj_some {H : HS} {k : Int} {x : Ho} (h : H.obj k = some x) : x ∈ H.L ∧ (x.h : Int) = k :=
  ⟨List.mem_of_find?_eq_some h, by have := List.find?_some h; simpa using this⟩
theorem obj_none {H : HS} {k : Int} (h : H.obj k = none) : ∀ x ∈ H.L, (x.h : Int) ≠ k := fun x hx => by
  have := List.find?_eq_none.1 h x hx
  simpa using this
theorem uniq {L : List Ho} (hp : L.Pairwise fun x y => x.h < y.h) {x y : Ho} (hx : x ∈ L) (hy : y ∈ L) (h : x.h = y.h) : x = y := by
  induction L with
  | nil => cases hx
  | cons z L ih =>
    obtain ⟨h1, h2⟩ := List.pairwise_cons.1 hp
    rcases List.mem_cons.1 hx with e1 | hx1
    · rcases List.mem_cons.1 hy with e2 | hy1
      · rw [e1, e2]
      · have := h1 y hy1; rw [e1] at h; omega
    · rcases List.mem_cons.1 hy with e2 | hy1
      · have := h1 x hx1; rw [e2] at h; omega
      · exact ih h2 hx1 hy1
theorem obj_of {H : HS} {t : Nat} (h : H.Ok t) {x : Ho} (hx : x ∈ H.L) : H.obj x.h = some x := by
  cases hh : H.obj x.h with
  | none => exact absurd rfl (obj_none hh x hx)
  | some y =>
    obtain ⟨h1, h2⟩ := obj_some hh
    rw [uniq h.rise h1 hx (by omega)]
theorem oid_some {H : HS} {k : Int} {o : Nat} (h : H.oidOf k = some o) : ∃ p ∈ H.T, (p.1 : Int) = k ∧ p.2 = o := by
  obtain ⟨p, hp, rfl⟩ := Option.map_eq_some_iff.1 h
  exact ⟨p, List.mem_of_find?_eq_some hp, by have := List.find?_some hp; simpa using this, rfl⟩
theorem oid_none {H : HS} {k : Int} (h : H.oidOf k = none) : ∀ p ∈ H.T, (p.1 : Int) ≠ k := fun p hp => by
  have := List.find?_eq_none.1 (Option.map_eq_none_iff.1 h) p hp
  simpa using this
theorem of_some {H : HS} {k : Int} {o : Nat} (h : H.ofOid k = some o) : ∃ p ∈ H.T, (p.2 : Int) = k ∧ p.1 = o := by
  obtain ⟨p, hp, rfl⟩ := Option.map_eq_some_iff.1 h
  exact ⟨p, List.mem_of_find?_eq_some hp, by have := List.find?_some hp; simpa using this, rfl⟩
theorem of_none {H : HS} {k : Int} (h : H.ofOid k = none) : ∀ p ∈ H.T, (p.2 : Int) ≠ k := fun p hp => by
  have := List.find?_eq_none.1 (Option.map_eq_none_iff.1 h) p hp
  simpa using this
end HS

/-- What a block is for. -/
inductive Lab where
  | no
  | hd
  | mp (i : Nat)
  | it (h : Nat)
  | wd (h : Nat)
/-- Where a heap lies. -/
structure Mem where
  g : Nat
  ob : Nat
  oi : Nat
  ha : Nat
  B : Nat → Nat
  R : Nat → Lab
def atH (B : Nat → Nat) (L : List Ho) (i : Int) : Option Nat := (L.find? fun x => (x.h : Int) == i).map fun x => B x.h
def heldC (x : Ho) (A : Option Addr) (c : Nat) : Array Value := #[.int .u8 (x.o.k : Int), .int .i64 x.o.tag, .slice A x.o.ws.length c, .string (str x.o.t), .bool x.dirty]
/-- An object in memory. -/
structure Held (w : World) (R : Nat → Lab) (f : Nat) (x : Ho) (A : Option Addr) (c : Nat) : Prop where
  blk : Blk w f 88 (heldC x A c)
  row : WRow 0 w A x.o.ws.length c x.o.ws
  lab : R f = .it x.h
  wlab : ∀ p : Addr, A = some p → R p.block = .wd x.h
theorem Held.off {w w' : World} {R R' : Nat → Lab} {f : Nat} {x : Ho} {A : Option Addr} {c : Nat} {G : Nat → Prop} (h : Held w R f x A c) (ho : Off G w w') (hG : ∀ b, G b → R b ≠ .it x.h ∧ R b ≠ .wd x.h) (hR : ∀ b, R b ≠ .no → R' b = R b) : Held w' R' f x A c :=
  ⟨h.blk.same (ho.block f h.blk.lt fun e => (hG f e).1 h.lab), h.row.same ho.size fun p e => ho.block _ (h.row.blk p e).2.2.2 fun e' => (hG _ e').2 (h.wlab p e), (hR f (by rw [h.lab]; intro e; cases e)).trans h.lab,
    fun p e => (hR _ (by rw [h.wlab p e]; intro e; cases e)).trans (h.wlab p e)⟩
def headC (M : Mem) (H : HS) : Array Value := #[.int .i64 (H.limit : Int), .int .i64 (H.used : Int), .int .i64 (H.count : Int), .map (some M.ob), .map (some M.oi), .map (some M.ha)]
/-- A heap in memory. -/
structure HM (w : World) (M : Mem) (n : Nat) (H : HS) : Prop where
  head : Blk w M.g 80 (headC M H)
  obs : PMap w M.ob n H.L.length (atH M.B H.L)
  ois : NMap w M.oi n H.T.length H.oidOf
  has : NMap w M.ha n H.T.length H.ofOid
  held : ∀ x ∈ H.L, ∃ A c, Held w M.R (M.B x.h) x A c
  rg : M.R M.g = .hd
  rob : M.R M.ob = .mp 0
  roi : M.R M.oi = .mp 1
  rha : M.R M.ha = .mp 2
  lt : ∀ b, M.R b ≠ .no → b < w.heap.size
theorem HM.keep {w w' : World} {M : Mem} {n : Nat} {H : HS} (h : HM w M n H) (hs : w.heap.size ≤ w'.heap.size) (hk : ∀ b, M.R b ≠ .no → w'.heap[b]? = w.heap[b]?) : HM w' M n H :=
  ⟨h.head.same (hk _ (by rw [h.rg]; intro e; cases e)), h.obs.same (hk _ (by rw [h.rob]; intro e; cases e)), h.ois.same (hk _ (by rw [h.roi]; intro e; cases e)), h.has.same (hk _ (by rw [h.rha]; intro e; cases e)),
    fun x hx => by
      obtain ⟨A, c, k⟩ := h.held x hx
      exact ⟨A, c, k.blk.same (hk _ (by rw [k.lab]; intro e; cases e)), k.row.same hs fun p e => hk _ (by rw [k.wlab p e]; intro e; cases e), k.lab, k.wlab⟩, h.rg, h.rob, h.roi, h.rha, fun b hb => Nat.lt_of_lt_of_le (h.lt b hb) hs⟩
/-- A heap behind w0, apart from X. -/
structure HR (w0 w : World) (X : Nat → Prop) (g t : Nat) (H : HS) : Prop where
  ex : ∃ M n, HM w M n H ∧ M.g = g ∧ n ≤ t ∧ ∀ b, M.R b ≠ .no → w0.heap.size ≤ b ∧ ¬ X b
  lt : ∀ b, X b → b < w.heap.size
  bel : Below w0.heap.size w0 w
  ok : H.Ok t
/-- The blocks of X are as they were. -/
structure Keep (X : Nat → Prop) (w w' : World) : Prop where
  size : w.heap.size ≤ w'.heap.size
  at_ : ∀ k, X k → w'.heap[k]? = w.heap[k]?
theorem Keep.refl (X : Nat → Prop) (w : World) : Keep X w w := ⟨Nat.le_refl _, fun _ _ => rfl⟩
theorem Keep.trans {X : Nat → Prop} {w w1 w2 : World} (h : Keep X w w1) (k : Keep X w1 w2) : Keep X w w2 := ⟨Nat.le_trans h.size k.size, fun j hj => (k.at_ j hj).trans (h.at_ j hj)⟩
theorem Keep.less {X Y : Nat → Prop} {w w1 : World} (h : Keep X w w1) (hY : ∀ k, Y k → X k) : Keep Y w w1 := ⟨h.size, fun j hj => h.at_ j (hY j hj)⟩
section
variable {w0 w w' : World} {X Y : Nat → Prop} {g t : Nat} {H H' : HS}
theorem HR.below (h : HR w0 w X g t H) (hb : Below w.heap.size w w') : HR w0 w' X g t H ∧ Keep X w w' := by
  obtain ⟨⟨M, n, hm, e, hn, hf⟩, hl, hbe, hok⟩ := h
  exact ⟨⟨⟨M, n, hm.keep hb.size fun b hR => hb.block b (hm.lt b hR), e, hn, hf⟩, fun b hX => Nat.lt_of_lt_of_le (hl b hX) hb.size, hbe.trans (hb.mono hbe.size), hok⟩, ⟨hb.size, fun k hk => hb.block k (hl k hk)⟩⟩
/-- More is apart from it: what is new. -/
theorem HR.more (h : HR w0 w X g t H) (hb : Below w.heap.size w w') (hY : ∀ k, Y k → X k ∨ (w.heap.size ≤ k ∧ k < w'.heap.size)) : HR w0 w' Y g t H := by
  obtain ⟨⟨M, n, hm, e, hn, hf⟩, hl, hbe, hok⟩ := h
  exact ⟨⟨M, n, hm.keep hb.size fun b hR => hb.block b (hm.lt b hR), e, hn, fun b hb' => ⟨(hf b hb').1, fun hy => by
    rcases hY b hy with h1 | h1
    · exact (hf b hb').2 h1
    · have := hm.lt b hb'; omega⟩⟩, fun b hy => by
    rcases hY b hy with h1 | h1
    · exact Nat.lt_of_lt_of_le (hl b h1) hb.size
    · exact h1.2, hbe.trans (hb.mono hbe.size), hok⟩
theorem HR.less (h : HR w0 w X g t H) (hY : ∀ k, Y k → X k) : HR w0 w Y g t H := by
  obtain ⟨⟨M, n, hm, e, hn, hf⟩, hl, hbe, hok⟩ := h
  exact ⟨⟨M, n, hm, e, hn, fun b hb => ⟨(hf b hb).1, fun hy => (hf b hb).2 (hY b hy)⟩⟩, fun b hy => hl b (hY b hy), hbe, hok⟩
theorem HR.mono {u : Nat} (h : HR w0 w X g t H) (hu : t ≤ u) : HR w0 w X g u H := by
  obtain ⟨⟨M, n, hm, e, hn, hf⟩, hl, hbe, hok⟩ := h
  exact ⟨⟨M, n, hm, e, Nat.le_trans hn hu, hf⟩, hl, hbe, hok.mono hu⟩
/-- Blocks of X are turned. -/
theorem HR.turnX {G : Nat → Prop} (h : HR w0 w X g t H) (ho : Off G w w') (hG : ∀ k, G k → X k ∧ w0.heap.size ≤ k) : HR w0 w' X g t H := by
  obtain ⟨⟨M, n, hm, e, hn, hf⟩, hl, hbe, hok⟩ := h
  exact ⟨⟨M, n, hm.keep ho.size fun b hR => ho.block b (hm.lt b hR) fun e => (hf b hR).2 (hG b e).1, e, hn, hf⟩, fun b hX => Nat.lt_of_lt_of_le (hl b hX) ho.size, hbe.trans (ho.below hbe.size fun k hk => (hG k hk).2), hok⟩
/-- A step of the heap: only its own blocks and new ones have turned. -/
theorem HR.next {M M' : Mem} {n' u : Nat} (hf : ∀ b, M.R b ≠ .no → w0.heap.size ≤ b ∧ ¬ X b) (hl : ∀ b, X b → b < w.heap.size) (hbe : Below w0.heap.size w0 w) (ho : Off (fun b => M.R b ≠ .no) w w') (hm' : HM w' M' n' H')
    (hg : M'.g = g) (hn : n' ≤ u) (hR : ∀ b, M'.R b ≠ .no → M.R b ≠ .no ∨ w.heap.size ≤ b) (hok : H'.Ok u) : HR w0 w' X g u H' ∧ Keep X w w' :=
  ⟨⟨⟨M', n', hm', hg, hn, fun b hb => by
      rcases hR b hb with h1 | h1
      · exact hf b h1
      · exact ⟨Nat.le_trans hbe.size h1, fun hx => by have := hl b hx; omega⟩⟩, fun b hX => Nat.lt_of_lt_of_le (hl b hX) ho.size, hbe.trans (ho.below hbe.size fun k hk => (hf k hk).1), hok⟩,
    ⟨ho.size, fun k hk => ho.block k (hl k hk) fun e => (hf k e).2 hk⟩⟩
end
end Go.Proofs.Ytclkkfffecmjnaa
