/- token: rows of tokens. -/
import Derived.Test.YtdnmdccjecoojaaDoorO
namespace Go.Proofs.YtdnmdccjecoojaaDoor
open Go.RowKit Tok
def tcs (x : Tk × Nat) : List Value := [bv x.1.k, .string (str x.1.t), .int .i64 (x.1.n : Int), .int .i64 (x.2 : Int)]
def flat (ws : List (Tk × Nat)) : List Value := ws.flatMap tcs
theorem flat_len (ws : List (Tk × Nat)) : (flat ws).length = ws.length * 4 := by
  induction ws with
  | nil => rfl
  | cons x ws ih => unfold flat at ih ⊢; rw [List.flatMap_cons, List.length_append, ih, List.length_cons]; simp [tcs]; omega
theorem flat_get {ws : List (Tk × Nat)} {r : Nat} {x : Tk × Nat} (h : ws[r]? = some x) : (flat ws)[r * 4]? = some (bv x.1.k) ∧ (flat ws)[r * 4 + 1]? = some (.string (str x.1.t)) ∧ (flat ws)[r * 4 + 2]? = some (.int .i64 (x.1.n : Int)) ∧ (flat ws)[r * 4 + 3]? = some (.int .i64 (x.2 : Int)) := by
  induction ws generalizing r with
  | nil => simp at h
  | cons y ws ih =>
    cases r with
    | zero => simp at h; subst h; exact ⟨rfl, rfl, rfl, rfl⟩
    | succ r =>
      have := ih (r := r) (by simpa using h)
      have e : flat (y :: ws) = tcs y ++ flat ws := rfl
      have hl : (tcs y).length = 4 := rfl
      rw [e, List.getElem?_append_right (by omega), List.getElem?_append_right (by omega), List.getElem?_append_right (by omega), List.getElem?_append_right (by omega), hl, show (r + 1) * 4 - 4 = r * 4 by omega, show (r + 1) * 4 + 1 - 4 = r * 4 + 1 by omega, show (r + 1) * 4 + 2 - 4 = r * 4 + 2 by omega, show (r + 1) * 4 + 3 - 4 = r * 4 + 3 by omega]
      exact this
theorem flat_one {ws : List (Tk × Nat)} : ∀ u ∈ flat ws, u.oneCell' = true := fun u hu => by
  unfold flat at hu
  obtain ⟨x, _, hx⟩ := List.mem_flatMap.1 hu
  simp [tcs] at hx
  rcases hx with rfl | rfl | rfl | rfl <;> rfl
/-- What a value of type []Token reads as. -/
def Toks (w : World) (A : Option Addr) (ws : List (Tk × Nat)) : Prop :=
  ∀ (r : Nat) (x : Tk × Nat), ws[r]? = some x → ∃ b off, A = some ⟨b, off, none⟩ ∧ b < w.heap.size ∧ w.cell? ⟨b, off + r * 4, none⟩ = some (bv x.1.k) ∧ w.cell? ⟨b, off + r * 4 + 1, none⟩ = some (.string (str x.1.t)) ∧ w.cell? ⟨b, off + r * 4 + 2, none⟩ = some (.int .i64 (x.1.n : Int)) ∧ w.cell? ⟨b, off + r * 4 + 3, none⟩ = some (.int .i64 (x.2 : Int))
theorem Toks.below {w w' : World} {A : Option Addr} {ws : List (Tk × Nat)} (h : Toks w A ws) (hb : Below w.heap.size w w') : Toks w' A ws := fun r x hr => by
  obtain ⟨b, off, e, hlt, c0, c1, c2, c3⟩ := h r x hr
  exact ⟨b, off, e, Nat.lt_of_lt_of_le hlt hb.size, (hb.cell (p := ⟨b, _, none⟩) hlt).trans c0, (hb.cell (p := ⟨b, _, none⟩) hlt).trans c1, (hb.cell (p := ⟨b, _, none⟩) hlt).trans c2, (hb.cell (p := ⟨b, _, none⟩) hlt).trans c3⟩
/-- A row of tokens, of blocks from B on. -/
structure TksZ (B : Nat) (W : World) (sv : Value) (ws : List (Tk × Nat)) : Prop where
  own : W.ownsRow B 34 4 sv ws.length (flat ws)
theorem TksZ.nil (B : Nat) (W : World) : TksZ B W (.slice none 0 0) [] := ⟨World.ownsRow_nil _ _ _ _⟩
theorem TksZ.lt {B : Nat} {W : World} {sv : Value} {ws : List (Tk × Nat)} (h : TksZ B W sv ws) (k : Nat) (hk : sv.ownBlock = some k) : B ≤ k ∧ k < W.heap.size := h.own.lt k hk
theorem TksZ.same {B : Nat} {W W' : World} {sv : Value} {ws : List (Tk × Nat)} (h : TksZ B W sv ws) (hr : ∀ k, sv.ownBlock = some k → W'.heap[k]? = W.heap[k]?) : TksZ B W' sv ws := by
  refine ⟨⟨h.own.1, ?_⟩⟩
  rcases h.own.2 with h0 | ⟨g, cap, cur, rfl, h1, h2, h3⟩
  · exact .inl h0
  · exact .inr ⟨g, cap, cur, rfl, h1, (hr g rfl).trans h2, h3⟩
theorem TksZ.below {B : Nat} {W W' : World} {sv : Value} {ws : List (Tk × Nat)} (h : TksZ B W sv ws) (hb : Below W.heap.size W W') : TksZ B W' sv ws := h.same fun k hk => hb.block k (h.lt k hk).2
theorem TksZ.toks {B : Nat} {W : World} {sv : Value} {ws : List (Tk × Nat)} (h : TksZ B W sv ws) : ∃ A c, sv = .slice A ws.length c ∧ ws.length ≤ c ∧ c ≤ maxLen ∧ Toks W A ws := by
  rcases h.own.2 with ⟨rfl, h0⟩ | ⟨g, cap, cur, rfl, hB, hg, h1, h2, _⟩
  · have : ws = [] := List.eq_nil_of_length_eq_zero h0
    subst this
    exact ⟨none, 0, rfl, Nat.le_refl _, Nat.zero_le _, fun r x hx => by simp at hx⟩
  · refine ⟨_, _, rfl, h1, h2, fun r x hx => ?_⟩
    have hr := (List.getElem?_eq_some_iff.1 hx).1
    have c0 := h.own.cellAt (r * 4) (by omega)
    have c1 := h.own.cellAt (r * 4 + 1) (by omega)
    have c2 := h.own.cellAt (r * 4 + 2) (by omega)
    have c3 := h.own.cellAt (r * 4 + 3) (by omega)
    obtain ⟨f0, f1, f2, f3⟩ := flat_get hx
    rw [f0] at c0
    rw [f1] at c1
    rw [f2] at c2
    rw [f3] at c3
    exact ⟨g, 0, rfl, (h.lt g rfl).2, by rw [Nat.zero_add]; exact c0, by rw [Nat.zero_add]; exact c1, by rw [Nat.zero_add]; exact c2, by rw [Nat.zero_add]; exact c3⟩
theorem infoTk3 : (Tryd.prog.info? 34).map (fun i => (i.zero, i.size, i.bytes)) = some (some (.agg #[.int .u8 0, .string ⟨#[]⟩, .int .i64 0, .int .i64 0]), 4, 40) := by kernel_rfl
theorem TksZ.push {B : Nat} {W : World} {sv : Value} {ws : List (Tk × Nat)} (h : TksZ B W sv ws) (g : Nat) (t : Tk) (i : Nat) (hA : Blk W g 34 (tkC t (i : Int))) (hB : B ≤ W.heap.size) (hl : ws.length < 1000000) :
    ∃ v' w', (Builtin.append_ #[25, 25] 25 #[sv, .slice (some ⟨g, 0, none⟩) 1 1]).run Tryd.prog W = .ok v' w' ∧ TksZ B w' v' (ws ++ [(t, i)]) ∧ W.grownBy w' sv.ownBlock ∧ (v'.ownBlock = sv.ownBlock ∨ v'.ownBlock = some W.heap.size) := by
  obtain ⟨i0, hi, hz0, hz1, hz2⟩ := info_parts infoTk3
  have happ : flat (ws ++ [(t, i)]) = flat ws ++ tcs (t, i) := by unfold flat; rw [List.flatMap_append]; simp
  have hcell : ∀ (j : Nat) (u : Value), (tcs (t, i))[j]? = some u → W.cell? ((⟨g, 0, none⟩ : Addr).add j) = some u := fun j u hj => by
    have hjl : j < 4 := (List.getElem?_eq_some_iff.1 hj).1
    have e2 : (⟨g, 0, none⟩ : Addr).add j = ⟨g, j, none⟩ := by unfold Addr.add; split <;> simp_all
    rw [e2, hA.cell j]
    match j, hjl with
    | 0, _ => exact hj
    | 1, _ => exact hj
    | 2, _ => exact hj
    | 3, _ => exact hj
  obtain ⟨v', w', hrun, h2, h3, _, h5⟩ := run_append_own_at (P := Tryd.prog) W B 25 25 34 i0 (.agg #[.int .u8 0, .string ⟨#[]⟩, .int .i64 0, .int .i64 0]) 4 40 Tryd.underlying25 hi hz0 hz1 hz2 rfl (by decide) sv ws.length _ h.own ⟨g, 0, none⟩ 1 1 (tcs (t, i)) rfl hcell
    (by intro u hu; simp [tcs] at hu; rcases hu with rfl | rfl | rfl | rfl <;> rfl) (by unfold maxLen; omega) (by omega) hB
  exact ⟨v', w', hrun, ⟨by rw [List.length_append, happ]; exact h2⟩, h3, h5⟩
end Go.Proofs.YtdnmdccjecoojaaDoor
