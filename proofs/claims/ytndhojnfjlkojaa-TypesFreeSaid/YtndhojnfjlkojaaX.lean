/- types: a book in memory. -/
import Derived.Test.YtndhojnfjlkojaaW
import Derived.OneCell
namespace Go.Proofs.Ytndhojnfjlkojaa
open Go.RowKit
set_option linter.unusedVariables false
set_option linter.unusedSimpArgs false
attribute [local go_sem] Oper.semAt_some
open Ty
/-- The blocks of a book that may turn. -/
def Mut (g : Nat) (vb vt : Value) (b : Nat) : Prop := b = g ∨ vb.ownBlock = some b ∨ vt.ownBlock = some b
/-- A type apart from what may turn. -/
structure Tm (M : Nat → Prop) (w : World) (t : Ty) (A : Option Addr) (c : Nat) : Prop where
  at_ : Ty.At (fun b => ¬ M b) w A t.ks
  len : t.ks.length ≤ c
  cap : c ≤ maxLen
  ok : t.ok
theorem Tm.tb {M : Nat → Prop} {w : World} {t : Ty} {A : Option Addr} {c : Nat} (h : Tm M w t A c) : Tb w.heap.size w t A c := ⟨h.at_.now, h.len, h.cap, h.ok⟩
theorem Tm.bel {M : Nat → Prop} {w w' : World} {t : Ty} {A : Option Addr} {c : Nat} (h : Tm M w t A c) (hb : Below w.heap.size w w') : Tm M w' t A c := ⟨h.at_.bel hb, h.len, h.cap, h.ok⟩
/-- What an unknown is bound to. -/
def Bound (w : World) (M : Nat → Prop) (o : Option Ty) (pv : Option Addr) : Prop :=
  (o = none ∧ pv = none) ∨ ∃ t p A c, o = some t ∧ pv = some ⟨p, 0, none⟩ ∧ Blk w p 24 #[.int .u8 (t.k : Int), .string (str t.nm), .int .i64 t.n, .slice A t.ks.length c] ∧ ¬ M p ∧ Tm M w t A c
/-- A book. -/
structure BM (w : World) (g N : Nat) (l : List (Int × Ty)) (vb vt : Value) : Prop where
  blk : Blk w g 63 #[vb, vt]
  bnd : ∃ ps, w.ownsRow 0 67 1 vb N ps ∧ ∀ x : Nat, x < N → ∃ pv, ps[x]? = some (.pointer pv) ∧ Bound w (Mut g vb vt) (look l (x : Int)) pv
  trl : w.ownsRow 0 3 1 vt l.length (l.map fun p => Value.int .i64 p.1)
  nb : vb.ownBlock ≠ some g
  nt : vt.ownBlock ≠ some g
  bt : ∀ b, vb.ownBlock = some b → vt.ownBlock ≠ some b
  cnt : l.length + nfree N (look l) ≤ N
  few : N ≤ 100000
/-- What a step of a book may turn. -/
structure Go (w : World) (g : Nat) (vb vt : Value) (w' : World) (vb' vt' : Value) : Prop where
  off : Off (Mut g vb vt) w w'
  new : ∀ b, Mut g vb' vt' b → Mut g vb vt b ∨ w.heap.size ≤ b
theorem Go.refl (w : World) (g : Nat) (vb vt : Value) : Go w g vb vt w vb vt := ⟨Off.refl _ _, fun b h => .inl h⟩
theorem Go.bel {w w' : World} (g : Nat) (vb vt : Value) (h : Below w.heap.size w w') : Go w g vb vt w' vb vt := ⟨Off.of_new h _, fun b h => .inl h⟩
theorem Go.trans {w w1 w2 : World} {g : Nat} {vb vt vb1 vt1 vb2 vt2 : Value} (h : Go w g vb vt w1 vb1 vt1) (k : Go w1 g vb1 vt1 w2 vb2 vt2) : Go w g vb vt w2 vb2 vt2 := by
  refine ⟨⟨k.off.os.trans h.off.os, k.off.tape.trans h.off.tape, k.off.output.trans h.off.output, Nat.le_trans h.off.size k.off.size, fun b hb hn => ?_⟩, fun b hb => ?_⟩
  · refine (k.off.block b (Nat.lt_of_lt_of_le hb h.off.size) fun hm => ?_).trans (h.off.block b hb hn)
    rcases h.new b hm with h1 | h1
    · exact hn h1
    · omega
  · rcases k.new b hb with h1 | h1
    · exact h.new b h1
    · exact .inr (Nat.le_trans h.off.size h1)
theorem Go.apart {w w1 : World} {g : Nat} {vb vt vb1 vt1 : Value} (h : Go w g vb vt w1 vb1 vt1) {b : Nat} (hb : ¬ Mut g vb vt b) (hl : b < w.heap.size) : ¬ Mut g vb1 vt1 b := fun hm => by
  rcases h.new b hm with h1 | h1
  · exact hb h1
  · omega
theorem Go.at_ {w w1 : World} {g : Nat} {vb vt vb1 vt1 : Value} (h : Go w g vb vt w1 vb1 vt1) {A : Option Addr} {ts : List Ty} (hA : Ty.At (fun b => ¬ Mut g vb vt b) w A ts) : Ty.At (fun b => ¬ Mut g vb1 vt1 b) w1 A ts := by
  induction hA with
  | nil A => exact .nil A
  | mk b off ts Af cf hF hlt hc hk ih =>
    exact .mk b off ts Af cf (h.apart hF hlt) (Nat.lt_of_lt_of_le hlt h.off.size) (fun r t ht => by
      obtain ⟨h1, h2⟩ := hc r t ht
      exact ⟨fun j v hj => (World.cell?_of_block (a := ⟨b, off + r * 4 + j, none⟩) (h.off.block b hlt hF)).trans (h1 j v hj), h2⟩) fun r t ht => ih r t ht
theorem Go.tm {w w1 : World} {g : Nat} {vb vt vb1 vt1 : Value} (h : Go w g vb vt w1 vb1 vt1) {t : Ty} {A : Option Addr} {c : Nat} (hT : Tm (Mut g vb vt) w t A c) : Tm (Mut g vb1 vt1) w1 t A c := ⟨h.at_ hT.at_, hT.len, hT.cap, hT.ok⟩
theorem Go.blk {w w1 : World} {g : Nat} {vb vt vb1 vt1 : Value} (h : Go w g vb vt w1 vb1 vt1) {b : Nat} {T : TypeId} {cs : Array Value} (hb : Blk w b T cs) (hn : ¬ Mut g vb vt b) : Blk w1 b T cs := hb.off h.off hn
theorem Go.bound {w w1 : World} {g : Nat} {vb vt vb1 vt1 : Value} (h : Go w g vb vt w1 vb1 vt1) {o : Option Ty} {pv : Option Addr} (hb : Bound w (Mut g vb vt) o pv) : Bound w1 (Mut g vb1 vt1) o pv := by
  rcases hb with hb | ⟨t, p, A, c, h1, h2, h3, h4, h5⟩
  · exact .inl hb
  · exact .inr ⟨t, p, A, c, h1, h2, h.blk h3 h4, h.apart h4 h3.lt, h.tm h5⟩
theorem own_shape1 {w : World} {e : TypeId} {v : Value} {n : Nat} {xs : List Value} (h : w.ownsRow 0 e 1 v n xs) : ∃ A c, v = .slice A n c ∧ n ≤ c ∧ c ≤ maxLen := by
  rcases h.2 with ⟨rfl, h0⟩ | ⟨g, cap, cur, rfl, _, _, h1, h2, _⟩
  · exact ⟨none, 0, by rw [h0], by omega, Nat.zero_le _⟩
  · exact ⟨_, _, rfl, h1, h2⟩
theorem own_get1 {w : World} {e : TypeId} {v : Value} {n : Nat} {xs : List Value} (h : w.ownsRow 0 e 1 v n xs) {k : Nat} (hk : k < n) : ∃ b c, v = .slice (some ⟨b, 0, none⟩) n c ∧ b < w.heap.size ∧ w.cell? ⟨b, k, none⟩ = xs[k]? ∧ ∀ j, w.frozen? ⟨b, j, none⟩ = false := by
  rcases h.2 with ⟨rfl, e⟩ | ⟨g, cap, cur, rfl, _, h1, _⟩
  · omega
  · have hb : Blk w g e cur := h1
    exact ⟨g, cap, rfl, hb.lt, h.cellAt k (by omega), hb.frozen⟩
theorem own_set1 {w : World} {e : TypeId} {b c n : Nat} {xs : List Value} (h : w.ownsRow 0 e 1 (.slice (some ⟨b, 0, none⟩) n c) n xs) (k : Nat) (u : Value) : (w.setCell ⟨b, k, none⟩ u).ownsRow 0 e 1 (.slice (some ⟨b, 0, none⟩) n c) n (xs.set k u) := by
  rcases h.2 with ⟨h0, _⟩ | ⟨g, cap, cur, hv, h0, h1, h2, h3, h4, h5⟩
  · cases h0
  · cases hv
    have hb : Blk w b e cur := h1
    refine ⟨by rw [List.length_set]; exact h.1, .inr ⟨b, c, cur.setIfInBounds k u, rfl, h0, hb.set_ k u, h2, h3, by simpa using h4, ?_⟩⟩
    rw [Array.toList_setIfInBounds, List.take_set, h5]
theorem Below.drew1 {B : Nat} {w w' : World} (h : Below B w w') : Below B w w'.drew := h.drew
namespace BM
variable {w w' : World} {g N : Nat} {l : List (Int × Ty)} {vb vt : Value}
theorem shape (h : BM w g N l vb vt) : ∃ Ab cb, vb = .slice Ab N cb ∧ N ≤ cb ∧ cb ≤ maxLen := by
  obtain ⟨ps, h1, _⟩ := h.bnd
  exact own_shape1 h1
theorem bel (h : BM w g N l vb vt) (hb : Below w.heap.size w w') : BM w' g N l vb vt := by
  obtain ⟨ps, h1, h2⟩ := h.bnd
  refine ⟨h.blk.below hb h.blk.lt, ⟨ps, own_below h1 hb, fun x hx => ?_⟩, own_below h.trl hb, h.nb, h.nt, h.bt, h.cnt, h.few⟩
  obtain ⟨pv, h3, h4⟩ := h2 x hx
  exact ⟨pv, h3, (Go.bel g vb vt hb).bound h4⟩
theorem bk {Ab : Option Addr} {cb : Nat} (h : BM w g N l (.slice Ab N cb) vt) : Bk w.heap.size w g Ab cb N (look l) := by
  obtain ⟨ps, h1, h2⟩ := h.bnd
  obtain ⟨A1, c1, e, k1, k2⟩ := own_shape1 h1
  cases e
  refine ⟨h.blk.cell 0, h.blk.lt, Nat.le_refl _, k1, k2, fun x hx => ?_⟩
  obtain ⟨pv, h3, h4⟩ := h2 x hx
  obtain ⟨b, c, e, hb, hc, _⟩ := own_get1 h1 hx
  cases e
  refine ⟨b, pv, rfl, hb, hc.trans h3, ?_⟩
  rcases h4 with h4 | ⟨t, p, A, c, k3, k4, k5, k6, k7⟩
  · exact .inl h4
  · exact .inr ⟨t, p, A, c, k3, k4, k5.lt, k5, k7.at_.now, k7.ok, k7.len, k7.cap⟩
theorem lt (h : BM w g N l vb vt) {b : Nat} (hm : Mut g vb vt b) : b < w.heap.size := by
  obtain ⟨ps, h1, h2⟩ := h.bnd
  rcases hm with rfl | hm | hm
  · exact h.blk.lt
  · exact (h1.lt b hm).2
  · exact (h.trl.lt b hm).2
/-- An unknown is bound. -/
theorem bind (h : BM w g N l vb vt) {n : Nat} (hn : n < N) (hl : look l (n : Int) = none) {p : Nat} {t : Ty} {A : Option Addr} {c : Nat} (hp : Blk w p 24 #[.int .u8 (t.k : Int), .string (str t.nm), .int .i64 t.n, .slice A t.ks.length c]) (hpm : ¬ Mut g vb vt p) (hT : Tm (Mut g vb vt) w t A c) :
    ∃ bb cb, vb = .slice (some ⟨bb, 0, none⟩) N cb ∧ (∃ u, w.cell? ⟨bb, n, none⟩ = some u) ∧ (∀ j, w.frozen? ⟨bb, j, none⟩ = false) ∧ bb ≠ g ∧
      ∀ (w1 W : World) (q : Nat), w.setCell ⟨bb, n, none⟩ (.pointer (some ⟨p, 0, none⟩)) = w1 → Below w1.heap.size w1 W → W.cell? ⟨q, 0, none⟩ = some (.int .i64 (n : Int)) → ∃ At ct At' ct' w2, vt = .slice At l.length ct ∧ (Builtin.append_ #[44, 44] 44 #[vt, .slice (some ⟨q, 0, none⟩) 1 1]).run Try.prog W = .ok (.slice At' (l.length + 1) ct') w2 ∧
        w2.cell? ⟨g, 0, none⟩ = some vb ∧ w2.cell? ⟨g, 1, none⟩ = some vt ∧ (∀ j, w2.frozen? ⟨g, j, none⟩ = false) ∧ Off (fun b => bb = b ∨ vt.ownBlock = some b) w w2 ∧ BM (w2.setCell ⟨g, 1, none⟩ (.slice At' (l.length + 1) ct')) g N (l ++ [((n : Int), t)]) vb (.slice At' (l.length + 1) ct') ∧ Go w g vb vt (w2.setCell ⟨g, 1, none⟩ (.slice At' (l.length + 1) ct')) vb (.slice At' (l.length + 1) ct') := by
  obtain ⟨ps, h1, h2⟩ := h.bnd
  obtain ⟨bb, cb, rfl, hbb, hc, hf⟩ := own_get1 h1 hn
  obtain ⟨pv0, hpv0, _⟩ := h2 n hn
  have hbg : bb ≠ g := fun e => h.nb (by rw [← e]; rfl)
  refine ⟨bb, cb, rfl, ⟨_, hc.trans hpv0⟩, hf, hbg, fun w1 W q hw1 hWB hq => ?_⟩
  obtain ⟨At, ct, rfl, hct, hcm⟩ := own_shape1 h.trl
  have ho1 : Off (fun b => b = bb) w w1 := by rw [← hw1]; exact Off.setc _ _ _ _
  have hs1 : w1.heap.size = w.heap.size := by rw [← hw1]; simp [World.setCell]
  have ht1 : w1.ownsRow 0 3 1 (.slice At l.length ct) l.length (l.map fun p => Value.int .i64 p.1) := by rw [← hw1]; exact ownsRow_setCell_other h.trl (a := ⟨bb, n, none⟩) (fun e => h.bt bb rfl e) _
  have htW := own_below ht1 hWB
  have hI : (Try.prog.info? 3).map (fun i => (i.zero, i.size, i.bytes)) = some (some (.int .i64 0), 1, 8) := by kernel_rfl
  obtain ⟨i0, hi, hz0, hz1, hz2⟩ := info_parts hI
  have hcell : ∀ (j : Nat) (u : Value), [Value.int .i64 (n : Int)][j]? = some u → W.cell? ((⟨q, 0, none⟩ : Addr).add j) = some u := fun j u hj => by
    have e2 : (⟨q, 0, none⟩ : Addr).add j = ⟨q, 0 + j, none⟩ := by unfold Addr.add; split <;> simp_all
    rw [e2, Nat.zero_add]
    rcases j with _ | j
    · cases hj; exact hq
    · simp at hj
  have hcnt := h.cnt
  have hfew := h.few
  obtain ⟨v', w2, hrun, k2, k3, _, k5⟩ := run_append_own_at (P := Try.prog) W 0 44 44 3 i0 (.int .i64 0) 1 8 Try.underlying44 hi hz0 hz1 hz2 rfl (by decide) _ l.length _ htW ⟨q, 0, none⟩ 1 1 [.int .i64 (n : Int)] (by simp) hcell
    (fun u hu => by rw [List.mem_singleton.1 hu]; rfl) (by unfold maxLen; omega) (by omega) (Nat.zero_le _)
  obtain ⟨At', ct', rfl, _, _⟩ := own_shape1 k2
  have hoa := Off.of_grown k3
  have ho2 : Off (fun b => bb = b ∨ Value.ownBlock (.slice At l.length ct) = some b) w w2 :=
    ((ho1.mono fun b _ e => .inl e.symm).trans (Off.of_below hWB _ fun k hk hk2 => by omega)).trans (hoa.mono fun b _ e => .inr e)
  have hgl := h.blk.lt
  have hg2 : Blk w2 g 63 #[.slice (some ⟨bb, 0, none⟩) N cb, .slice At l.length ct] := h.blk.off ho2 (fun e => by rcases e with e | e; exact hbg e; exact h.nt e)
  have hs2 := ho2.size
  have hW1 := hWB.size
  have hnew : ∀ b, Mut g (.slice (some ⟨bb, 0, none⟩) N cb) (.slice At' (l.length + 1) ct') b → Mut g (.slice (some ⟨bb, 0, none⟩) N cb) (.slice At l.length ct) b ∨ w.heap.size ≤ b := fun b hb => by
    rcases hb with hb | hb | hb
    · exact .inl (.inl hb)
    · exact .inl (.inr (.inl hb))
    · rcases k5 with k5 | k5
      · rw [k5] at hb; exact .inl (.inr (.inr hb))
      · rw [k5] at hb
        have := Option.some.inj hb
        exact .inr (by omega)
  have hgo : Go w g (.slice (some ⟨bb, 0, none⟩) N cb) (.slice At l.length ct) (w2.setCell ⟨g, 1, none⟩ (.slice At' (l.length + 1) ct')) (.slice (some ⟨bb, 0, none⟩) N cb) (.slice At' (l.length + 1) ct') :=
    ⟨(ho2.mono fun b _ e => by rcases e with e | e; exact .inr (.inl (by rw [← e]; rfl)); exact .inr (.inr e)).trans ((Off.setc w2 g 1 _).mono fun b _ e => .inl e), hnew⟩
  refine ⟨At, ct, At', ct', w2, rfl, hrun, hg2.cell 0, hg2.cell 1, hg2.frozen, ho2, ⟨?_, ⟨ps.set n (.pointer (some ⟨p, 0, none⟩)), ?_, fun x hx => ?_⟩, ?_, h.nb, ?_, ?_, ?_, h.few⟩, hgo⟩
  · have := hg2.set_ 1 (.slice At' (l.length + 1) ct')
    simpa using this
  · have e1 : w1.ownsRow 0 67 1 (.slice (some ⟨bb, 0, none⟩) N cb) N (ps.set n (.pointer (some ⟨p, 0, none⟩))) := by rw [← hw1]; exact own_set1 h1 _ _
    refine ownsRow_setCell_other ((own_below e1 hWB).kept k3 (.inr fun e => h.bt bb rfl e.symm)) (a := ⟨g, 1, none⟩) (fun e => hbg (Option.some.inj e)) _
  · by_cases e : n = x
    · subst e
      have hpl : n < ps.length := by rw [h1.1]; omega
      refine ⟨_, by rw [List.getElem?_set_self hpl], ?_⟩
      rw [look_app _ t l _ hl, if_pos rfl]
      exact .inr ⟨t, p, A, c, rfl, rfl, hgo.blk hp hpm, hgo.apart hpm hp.lt, hgo.tm hT⟩
    · obtain ⟨pv, k1, k4⟩ := h2 x hx
      refine ⟨pv, by rw [List.getElem?_set_ne e]; exact k1, ?_⟩
      rw [look_app _ t l _ hl, if_neg (fun h => e (by omega))]
      exact hgo.bound k4
  · have e2 : w2.ownsRow 0 3 1 (.slice At' (l.length + 1) ct') (l ++ [((n : Int), t)]).length ((l ++ [((n : Int), t)]).map fun p => Value.int .i64 p.1) := by
      rw [List.length_append, List.length_singleton, List.map_append]
      exact k2
    refine ownsRow_setCell_other e2 (a := ⟨g, 1, none⟩) (fun e => ?_) _
    rcases k5 with k5 | k5
    · rw [k5] at e; exact h.nt e
    · rw [k5] at e
      have e3 : W.heap.size = g := by simpa using e
      omega
  · intro e
    rcases k5 with k5 | k5
    · rw [k5] at e; exact h.nt e
    · rw [k5] at e
      have := Option.some.inj e
      omega
  · intro b hb e
    rcases k5 with k5 | k5
    · rw [k5] at e; exact h.bt b hb e
    · rw [k5] at e
      have e3 := Option.some.inj e
      have e4 : bb = b := Option.some.inj hb
      omega
  · have := nfree_bind t hl (Int.natCast_nonneg n) (by omega : (n : Int) < (N : Int))
    rw [List.length_append, List.length_singleton]
    omega
end BM
end Go.Proofs.Ytndhojnfjlkojaa
