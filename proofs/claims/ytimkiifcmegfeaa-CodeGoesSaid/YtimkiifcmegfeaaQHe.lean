/- Contracts. -/
import Derived.Test.YtimkiifcmegfeaaBG
import Derived.Test.YtimkiifcmegfeaaQHm
/- code: rows of instructions that a law makes. -/
namespace Go.Proofs.Ytimkiifcmegfeaa
open Go.RowKit
set_option linter.unusedVariables false
set_option linter.unusedSimpArgs false
attribute [local go_sem] Oper.semAt_some
theorem icl_one : ∀ (is : List Ins), ∀ u ∈ icl is, u.oneCell' = true
  | [], u, h => by simp [icl] at h
  | i :: is, u, h => by
    rw [icl, List.mem_append] at h
    rcases h with h | h
    · simp only [Ins.cells, List.mem_cons, List.not_mem_nil, or_false] at h
      rcases h with rfl | rfl | rfl | rfl | rfl <;> rfl
    · exact icl_one is u h
/-- More instructions. -/
theorem push_inss {w : World} {B : Nat} {v : Value} {is : List Ins} (h : w.ownsRow B 46 5 v is.length (icl is)) (hB : B ≤ w.heap.size) (ys : List Ins) (m g : Nat) (hm : ys.length = m) (hb : Blk w g 46 (icl ys).toArray) (hl : is.length + m < 100000000) :
    ∃ v' w', (Builtin.append_ #[44, 44] 44 #[v, .slice (some ⟨g, 0, none⟩) m m]).run Try.prog w = .ok v' w' ∧ w'.ownsRow B 46 5 v' (is.length + m) (icl (is ++ ys)) ∧ w.grownBy w' v.ownBlock ∧ (v'.ownBlock = v.ownBlock ∨ v'.ownBlock = some w.heap.size) := by
  obtain ⟨i0, hi, hz0, hz1, hz2⟩ := info_parts infoIns
  obtain ⟨v', w', hrun, h2, h3, _, h5⟩ := run_append_own_at (P := Try.prog) w B 44 44 46 i0 (.agg #[.int .u8 0, .int .i64 0, .int .i64 0, .int .i64 0, .string ⟨#[]⟩]) 5 48 Try.underlying44 hi hz0 hz1 hz2 rfl (by decide) v is.length _ h ⟨g, 0, none⟩ m m (icl ys) (by rw [icl_len, hm]) (fun j u hj => by rw [adds, hb.cell, ← Array.getElem?_toList]; exact hj)
    (icl_one ys) (by unfold maxLen; omega) (by omega) hB
  exact ⟨v', w', hrun, by rw [icl_app]; exact h2, h3, h5⟩
/-- A row of instructions of the law's own. -/
structure HeI (w wr : World) (v : Value) (n : Nat) (is : List Ins) : Prop where
  bel : Below w.heap.size w wr
  own : wr.ownsRow w.heap.size 46 5 v n (icl is)
  len : is.length = n
  ok : ∀ i ∈ is, i.ok
theorem HeI.nil (w : World) {wr : World} (hb : Below w.heap.size w wr) : HeI w wr (.slice none 0 0) 0 [] := ⟨hb, World.ownsRow_nil _ _ _ _, rfl, fun i h => by simp at h⟩
theorem HeI.push {w wr : World} {A : Option Addr} {c n : Nat} {is : List Ins} (h : HeI w wr (.slice A n c) n is) (ys : List Ins) (m : Nat) (hm : ys.length = m) (hl : n + m < 100000000) (hy : ∀ i ∈ ys, i.ok) :
    ∃ A' c' w', (Builtin.append_ #[44, 44] 44 #[.slice A n c, .slice (some ⟨wr.heap.size, 0, none⟩) m m]).run Try.prog (wr.alloc (.cells (icl ys).toArray 46)) = .ok (.slice A' (n + m) c') w' ∧ HeI w w' (.slice A' (n + m) c') (n + m) (is ++ ys) := by
  have hb2 : Below wr.heap.size wr (wr.alloc (.cells (icl ys).toArray 46)) := (Below.refl _ _).alloc (Nat.le_refl _) _
  have hwb := h.bel.trans (hb2.mono h.bel.size)
  have ho := own_below h.own hb2
  have hln := h.len
  subst hln
  obtain ⟨v', w', hrun, hown, hgr, hob⟩ := push_inss ho hwb.size ys m wr.heap.size hm (Blk.new wr _ _) hl
  obtain ⟨A', c', rfl⟩ := shape_n hown
  refine ⟨A', c', w', hrun, ⟨hwb.grown hgr (Nat.le_trans h.bel.size (by simp)) fun k e => (h.own.lt k e).1, hown, by rw [List.length_append, hm], fun i hi => ?_⟩⟩
  rcases List.mem_append.1 hi with hi | hi
  · exact h.ok i hi
  · exact hy i hi
/-- The row, as a function of a code. -/
theorem HeI.fe {w wr : World} {A : Option Addr} {c n : Nat} {is : List Ins} (h : HeI w wr (.slice A n c) n is) : Fe.In (fun b => b < wr.heap.size) wr ⟨A, c, is⟩ := by
  have hcap : n ≤ c ∧ c ≤ maxLen := by
    rcases h.own.2 with ⟨e, e0⟩ | ⟨g, cap', cur, e, _, _, h3, h4, _⟩
    · injection e with e1 e2 e3
      subst e3
      exact ⟨by omega, Nat.zero_le _⟩
    · injection e with e1 e2 e3
      subst e3
      exact ⟨h3, h4⟩
  have hr := row_own (cl := Ins.cells) h.own h.len (fun _ => rfl) (fun m x j u hx hj => icl_get is m x j u hx hj)
  exact ⟨by show is.length ≤ c; rw [h.len]; exact hcap.1, hcap.2, ⟨hr.mono fun b hlt _ => hlt, h.ok⟩⟩
theorem ok_small (op : Nat) (a : Int) (ho : op < 256) (h : -1000 ≤ a ∧ a ≤ 1000) : Ins.ok ⟨op, a, 0, 0, []⟩ := ⟨ho, ⟨by show -9223372036854775808 ≤ a; omega, by show a < 9223372036854775808; omega⟩, by show (-9223372036854775808 : Int) ≤ 0 ∧ (0 : Int) < 9223372036854775808; decide, by show (-9223372036854775808 : Int) ≤ 0 ∧ (0 : Int) < 9223372036854775808; decide, Nat.zero_le _⟩
theorem rs_nil (X : Nat → Prop) (w : World) : RsAt X w none [] := ⟨RowAt.nil _ _ _ _ _, fun r h => by simp at h⟩
/-- A code of one function, of two. -/
theorem one_at {wr : World} {f : Fe} (h : f.In (fun b => b < wr.heap.size) wr) : Cl.At (fun b => b < (wr.alloc (.cells #[.slice f.A f.is.length f.c] 44)).heap.size) (wr.alloc (.cells #[.slice f.A f.is.length f.c] 44)) ⟨[f], some ⟨wr.heap.size, 0, none⟩, 1, [], none, 0⟩ := by
  have hb : Below wr.heap.size wr (wr.alloc (.cells #[.slice f.A f.is.length f.c] 44)) := (Below.refl _ _).alloc (Nat.le_refl _) _
  have B := Blk.new wr 44 #[.slice f.A f.is.length f.c]
  refine ⟨⟨row_blk (xs := [.slice f.A f.is.length f.c]) B B.lt fun m x j v hx hj => ?_, fun g hg => ?_⟩, rs_nil _ _, ⟨show (1 : Nat) ≤ 1 by decide, show (1 : Nat) ≤ maxLen by decide⟩, ⟨Nat.le_refl _, Nat.zero_le _⟩⟩
  · rcases m with _ | m
    · cases hx
      rcases j with _ | j
      · exact hj
      · simp [Fe.cells] at hj
    · simp at hx
  · rw [List.mem_singleton.1 hg]
    exact (h.bel hb).mono fun b hlt _ => hlt
theorem two_at {wr : World} {f g : Fe} (h : f.In (fun b => b < wr.heap.size) wr) (h2 : g.In (fun b => b < wr.heap.size) wr) : Cl.At (fun b => b < (wr.alloc (.cells #[.slice f.A f.is.length f.c, .slice g.A g.is.length g.c] 44)).heap.size) (wr.alloc (.cells #[.slice f.A f.is.length f.c, .slice g.A g.is.length g.c] 44)) ⟨[f, g], some ⟨wr.heap.size, 0, none⟩, 2, [], none, 0⟩ := by
  have hb : Below wr.heap.size wr (wr.alloc (.cells #[.slice f.A f.is.length f.c, .slice g.A g.is.length g.c] 44)) := (Below.refl _ _).alloc (Nat.le_refl _) _
  have B := Blk.new wr 44 #[.slice f.A f.is.length f.c, .slice g.A g.is.length g.c]
  refine ⟨⟨row_blk (xs := [.slice f.A f.is.length f.c, .slice g.A g.is.length g.c]) B B.lt fun m x j v hx hj => ?_, fun k hk => ?_⟩, rs_nil _ _, ⟨show (2 : Nat) ≤ 2 by decide, show (2 : Nat) ≤ maxLen by decide⟩, ⟨Nat.le_refl _, Nat.zero_le _⟩⟩
  · rcases m with _ | _ | m
    · cases hx
      rcases j with _ | j
      · exact hj
      · simp [Fe.cells] at hj
    · cases hx
      rcases j with _ | j
      · exact hj
      · simp [Fe.cells] at hj
    · simp at hx
  · simp only [List.mem_cons, List.not_mem_nil, or_false] at hk
    rcases hk with rfl | rfl
    · exact (h.bel hb).mono fun b hlt _ => hlt
    · exact (h2.bel hb).mono fun b hlt _ => hlt
end Go.Proofs.Ytimkiifcmegfeaa
