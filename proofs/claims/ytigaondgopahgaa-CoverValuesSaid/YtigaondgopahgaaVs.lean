/- cover: rows of values that grow; what was taken. -/
import Derived.Test.YtigaondgopahgaaVp
namespace Go.Proofs.Ytigaondgopahgaa
open Go.RowKit Ty
set_option linter.unusedVariables false
set_option linter.unusedSimpArgs false
/-- A row of values as one. -/
def rowV (vs : List Vl) : Vl := .node [] 0 vs
theorem ok_row (vs : List Vl) : (rowV vs).ok := ⟨⟨by show (-9223372036854775808 : Int) ≤ 0; decide, by show (0 : Int) < 9223372036854775808; decide⟩, Nat.zero_le _⟩
/-- Kids that are not there have no room. -/
def NZ (es : List Ve) : Prop := ∀ e ∈ es, e.A = none → e.c = 0
theorem VO.base {F : Nat → Prop} {B B' : Nat} {w : World} {v : Value} {es : List Ve} (h : VO F B w v es) (hB : B' ≤ B) : VO F B' w v es := ⟨⟨h.own.1, h.own.2.imp id fun ⟨g, cap, cur, a, b, r⟩ => ⟨g, cap, cur, a, Nat.le_trans hB b, r⟩⟩, h.kids⟩
theorem VO.one {F : Nat → Prop} {B : Nat} {w : World} {g : Nat} (h : Blk w g 36 #[.string ⟨#[]⟩, .int .i64 0, .slice none 0 0]) (hB : B ≤ g) : VO F B w (.slice (some ⟨g, 0, none⟩) 1 1) [vE0 (rowV [])] :=
  ⟨⟨rfl, .inr ⟨g, 1, _, rfl, hB, h, Nat.le_refl _, by decide, rfl, rfl⟩⟩, fun e he => by rw [List.mem_singleton.1 he]; exact vE0_in rfl (ok_row _)⟩
theorem VO.form {F : Nat → Prop} {B : Nat} {w : World} {A : Option Addr} {N c : Nat} {es : List Ve} (h : VO F B w (.slice A N c) es) (hN : N ≠ 0) : ∃ g, A = some ⟨g, 0, none⟩ := by
  rcases h.own.2 with ⟨e2, h0⟩ | ⟨g', cap, cur, e2, _⟩
  · cases e2; exact absurd rfl hN
  · injection e2 with e2; exact ⟨g', e2⟩
theorem VO.cells {F : Nat → Prop} {B : Nat} {w : World} {g N c : Nat} {es : List Ve} (h : VO F B w (.slice (some ⟨g, 0, none⟩) N c) es) {r : Nat} {e : Ve} (he : es[r]? = some e) (j : Nat) (v : Value) (hj : j < 3) (hjv : e.cells[j]? = some v) : w.cell? ⟨g, r * 3 + j, none⟩ = some v := by
  have hr := (List.getElem?_eq_some_iff.1 he).1
  have hN : N = es.length := by
    rcases h.own.2 with ⟨e2, h0⟩ | ⟨g', cap, cur, e2, _⟩
    · cases e2
    · injection e2
  subst hN
  have h1 := h.own.cellAt (r * 3 + j) (by omega)
  rw [flatV_get he hjv] at h1
  exact h1
/-- One round of the law's first loops. -/
theorem vals_step {w wr : World} {B : Nat} {v8 : Value} {es8 : List Ve} {e x : Ve} {N kl xl : Nat}
    (hB : w.heap.size ≤ B) (hBr : B ≤ wr.heap.size) (h8 : VO (fun b => w.heap.size ≤ b) B wr v8 es8) (h8l : es8.length = N) (hN : N < 1000)
    (he : e.in_ (fun b => w.heap.size ≤ b ∧ b < B) wr) (hz : e.A = none → e.c = 0) (hkl : e.t.ks.length = kl) (hk : kl ≤ 4)
    (hx : x.in_ (fun b => w.heap.size ≤ b ∧ b < B) wr) (hxl : x.t.ks.length = xl) :
    ∃ A1 c1 w1, (Builtin.append_ #[34, 34] 34 #[.slice none 0 0, .slice e.A kl e.c]).run Try.prog wr = .ok (.slice A1 kl c1) w1 ∧ Below wr.heap.size wr w1 ∧
      ∀ w2, w1.alloc (.cells #[.string (str x.t.nm), .int .i64 x.t.n, .slice x.A xl x.c] 36) = w2 →
        ∃ A3 c3 w3, (Builtin.append_ #[34, 34] 34 #[.slice A1 kl c1, .slice (some ⟨w1.heap.size, 0, none⟩) 1 1]).run Try.prog w2 = .ok (.slice A3 (kl + 1) c3) w3 ∧ (A3 = none → c3 = 0) ∧
          ∀ w4, w3.alloc (.cells #[.string ⟨#[]⟩, .int .i64 0, .slice A3 (kl + 1) c3] 36) = w4 →
            ∃ A5 c5 w5, (Builtin.append_ #[34, 34] 34 #[v8, .slice (some ⟨w3.heap.size, 0, none⟩) 1 1]).run Try.prog w4 = .ok (.slice A5 (N + 1) c5) w5 ∧
              VO (fun b => w.heap.size ≤ b) B w5 (.slice A5 (N + 1) c5) (es8 ++ [⟨rowV (e.t.ks ++ [x.t]), A3, c3⟩]) ∧ Below B wr w5 := by
  have hkA : VAt (fun b => w.heap.size ≤ b ∧ b < B) wr e.A kl e.c e.t.ks := ⟨hkl, by rw [← hkl]; exact he.2.2.1, he.2.2.2, he.1⟩
  obtain ⟨v1, w1, fs, hr1, hO1, hm1, hl1, hg1⟩ := (VO.nil (fun b => w.heap.size ≤ b ∧ b < B) wr.heap.size wr).appA (Nat.le_refl _) hkA hz (fun b hb => ⟨hb, by intro h; cases h⟩) (by simp; omega)
  have hb1 : Below wr.heap.size wr w1 := (Off.of_grown hg1).below (Nat.le_refl _) fun k hk => by cases hk
  rw [List.nil_append] at hO1
  obtain ⟨A1, c1, rfl, _⟩ := hO1.shape
  rw [hl1] at hr1 hO1
  refine ⟨A1, c1, w1, hr1, hb1, fun w2 hw2 => ?_⟩
  have hb2 : Below w1.heap.size w1 w2 := by rw [← hw2]; exact (Below.refl _ _).alloc (Nat.le_refl _) _
  have hB2 : Blk w2 w1.heap.size 36 #[.string (str x.t.nm), .int .i64 x.t.n, .slice x.A xl x.c] := by rw [← hw2]; exact Blk.new _ _ _
  have h02 : Below wr.heap.size wr w2 := hb1.trans (hb2.mono hb1.size)
  have hcx : ∀ (j : Nat) (u : Value), (flatV [x])[j]? = some u → w2.cell? ((⟨w1.heap.size, 0, none⟩ : Addr).add j) = some u := fun j u hj => by
    rw [add_off, Nat.zero_add, hB2.cell, List.getElem?_toArray, ← hxl]
    have e1 : flatV [x] = x.cells := by unfold flatV; simp
    rw [e1] at hj
    exact hj
  obtain ⟨v3, w3, hr3, hO3, hg3⟩ := (hO1.below hb2).app (by have := h02.size; omega) [x] ⟨w1.heap.size, 0, none⟩ 1 1 rfl hcx (fun y hy => by
    rw [List.mem_singleton.1 hy]
    exact (hx.bel h02).mono fun k hk => ⟨hk, fun e2 => by have := (hO1.own.lt k e2).1; omega⟩) (by rw [hl1]; omega)
  obtain ⟨A3, c3, rfl, hS3⟩ := hO3.shape
  have hl3 : (fs ++ [x]).length = kl + 1 := by rw [List.length_append, hl1]; rfl
  rw [hl3] at hr3 hO3 hS3
  have hm3 : (fs ++ [x]).map Ve.t = e.t.ks ++ [x.t] := by rw [List.map_append, hm1]; rfl
  rw [hm3] at hS3
  obtain ⟨g3, rfl⟩ := hO3.form (by omega)
  refine ⟨_, c3, w3, hr3, (fun h => by cases h), fun w4 hw4 => ?_⟩
  have hb3 : Below wr.heap.size wr w3 := h02.trans ((hO1.below hb2).bel hg3 (Nat.le_refl _) h02.size)
  have hb4 : Below w3.heap.size w3 w4 := by rw [← hw4]; exact (Below.refl _ _).alloc (Nat.le_refl _) _
  have hB4 : Blk w4 w3.heap.size 36 #[.string ⟨#[]⟩, .int .i64 0, .slice (some ⟨g3, 0, none⟩) (kl + 1) c3] := by rw [← hw4]; exact Blk.new _ _ _
  have h04 : Below wr.heap.size wr w4 := hb3.trans (hb4.mono hb3.size)
  have hlen : (e.t.ks ++ [x.t]).length = kl + 1 := by rw [List.length_append, hkl]; rfl
  have hcy : ∀ (j : Nat) (u : Value), (flatV [⟨rowV (e.t.ks ++ [x.t]), some ⟨g3, 0, none⟩, c3⟩])[j]? = some u → w4.cell? ((⟨w3.heap.size, 0, none⟩ : Addr).add j) = some u := fun j u hj => by
    rw [add_off, Nat.zero_add, hB4.cell, List.getElem?_toArray, ← hlen]
    have e1 : flatV [⟨rowV (e.t.ks ++ [x.t]), some ⟨g3, 0, none⟩, c3⟩] = Ve.cells ⟨rowV (e.t.ks ++ [x.t]), some ⟨g3, 0, none⟩, c3⟩ := by unfold flatV; simp
    rw [e1] at hj
    exact hj
  obtain ⟨v5, w5, hr5, hO5, hg5⟩ := (h8.below h04).app (by have := h04.size; omega) [⟨rowV (e.t.ks ++ [x.t]), some ⟨g3, 0, none⟩, c3⟩] ⟨w3.heap.size, 0, none⟩ 1 1 rfl hcy (fun y hy => by
    rw [List.mem_singleton.1 hy]
    have h9 : Ve.in_ (fun b => (w.heap.size ≤ b ∧ b < B) ∨ wr.heap.size ≤ b) w3 ⟨rowV (e.t.ks ++ [x.t]), some ⟨g3, 0, none⟩, c3⟩ := ⟨hS3.at_, ok_row _, by show (e.t.ks ++ [x.t]).length ≤ c3; rw [hlen]; exact hS3.le, hS3.cap⟩
    refine (h9.bel hb4).mono fun k hk => ⟨?_, fun e2 => ?_⟩
    · have : (w.heap.size ≤ k ∧ k < B) ∨ wr.heap.size ≤ k := hk
      omega
    · have := h8.own.lt k e2
      have : (w.heap.size ≤ k ∧ k < B) ∨ wr.heap.size ≤ k := hk
      omega) (by rw [h8l]; omega)
  obtain ⟨A5, c5, rfl, _⟩ := hO5.shape
  have hl5 : (es8 ++ [(⟨rowV (e.t.ks ++ [x.t]), some ⟨g3, 0, none⟩, c3⟩ : Ve)]).length = N + 1 := by rw [List.length_append, h8l]; rfl
  rw [hl5] at hr5 hO5
  exact ⟨A5, c5, w5, hr5, hO5, (h04.mono hBr).trans ((h8.below h04).bel hg5 (Nat.le_refl _) (by have := h04.size; omega))⟩
/-! How far the rows of values have come. -/
def part (L : List (List Vl)) (V : List Vl) (k q : Nat) : List (List Vl) := ((L.take k).flatMap fun a => V.map fun x => a ++ [x]) ++ (V.take q).map fun x => (L[k]?.getD []) ++ [x]
theorem part_zero (L : List (List Vl)) (V : List Vl) : part L V 0 0 = [] := rfl
theorem part_q {L : List (List Vl)} {V : List Vl} {k q : Nat} {a : List Vl} {x : Vl} (ha : L[k]? = some a) (hx : V[q]? = some x) : part L V k (q + 1) = part L V k q ++ [a ++ [x]] := by
  unfold part
  rw [List.take_add_one, hx, List.map_append, ha, ← List.append_assoc]
  rfl
theorem part_k {L : List (List Vl)} {V : List Vl} {k : Nat} {a : List Vl} (ha : L[k]? = some a) : part L V (k + 1) 0 = part L V k V.length := by
  unfold part
  rw [List.take_add_one, ha, List.flatMap_append, List.take_zero, List.take_length]
  simp
theorem part_all (L : List (List Vl)) (V : List Vl) : part L V L.length 0 = L.flatMap fun a => V.map fun x => a ++ [x] := by
  unfold part
  rw [List.take_length, List.take_zero]
  simp
theorem part_len {L : List (List Vl)} {V : List Vl} {k q : Nat} (hV : V.length ≤ 4) (hq : q ≤ V.length) : (part L V k q).length ≤ 4 * L.length + 4 := by
  unfold part
  rw [List.length_append, List.length_map, List.length_take]
  have : ∀ a : List (List Vl), (a.flatMap fun b => V.map fun x => b ++ [x]).length ≤ 4 * a.length := fun a => by
    induction a with
    | nil => exact Nat.zero_le _
    | cons y a ih => rw [List.flatMap_cons, List.length_append, List.length_map, List.length_cons]; omega
  have h2 := this (L.take k)
  rw [List.length_take] at h2
  omega
/-! What was taken. -/
def tkRow (bs : List Bool) : Array Value := (bs.map Value.bool).toArray
theorem tkRow_get {bs : List Bool} {k : Nat} {b : Bool} (h : bs[k]? = some b) : (tkRow bs)[k]? = some (.bool b) := by
  unfold tkRow
  simp [h]
theorem tkRow_set (bs : List Bool) (k : Nat) (b : Bool) : (tkRow bs).setIfInBounds k (.bool b) = tkRow (bs.set k b) := by
  unfold tkRow
  simp [List.map_set]
def tkL (L : List (List Vl)) (R1 R2 : List (List Ty)) (k : Nat) : List Bool := (L.take k).map (tkn R2) ++ (L.drop k).map (tkn R1)
theorem tkL_zero (L : List (List Vl)) (R1 R2 : List (List Ty)) : tkL L R1 R2 0 = L.map (tkn R1) := by unfold tkL; simp
theorem tkL_all (L : List (List Vl)) (R1 R2 : List (List Ty)) : tkL L R1 R2 L.length = L.map (tkn R2) := by unfold tkL; simp
theorem tkL_get {L : List (List Vl)} {R1 R2 : List (List Ty)} {k : Nat} {a : List Vl} (h : L[k]? = some a) : (tkL L R1 R2 k)[k]? = some (tkn R1 a) := by
  have hk := (List.getElem?_eq_some_iff.1 h).1
  unfold tkL
  rw [List.getElem?_append_right (by rw [List.length_map, List.length_take]; omega), List.length_map, List.length_take, Nat.min_eq_left (by omega), Nat.sub_self, List.getElem?_map, List.getElem?_drop, Nat.add_zero, h]
  rfl
theorem tkL_next {L : List (List Vl)} {R1 R2 : List (List Ty)} {k : Nat} {a : List Vl} (h : L[k]? = some a) : tkL L R1 R2 (k + 1) = (tkL L R1 R2 k).set k (tkn R2 a) := by
  have hk := (List.getElem?_eq_some_iff.1 h).1
  unfold tkL
  rw [List.set_append_right _ _ (by rw [List.length_map, List.length_take]; omega), List.length_map, List.length_take, Nat.min_eq_left (by omega), Nat.sub_self, List.take_add_one, h]
  have hd : L.drop k = a :: L.drop (k + 1) := by
    have := List.drop_eq_getElem_cons hk
    rw [this]
    have e : L[k] = a := by have := List.getElem?_eq_getElem hk; rw [h] at this; exact (Option.some.inj this).symm
    rw [e]
  rw [hd]
  simp
theorem tkL_same {L : List (List Vl)} {R1 R2 : List (List Ty)} {k : Nat} {a : List Vl} (h : L[k]? = some a) (e : tkn R2 a = tkn R1 a) : tkL L R1 R2 (k + 1) = tkL L R1 R2 k := by
  rw [tkL_next h, e]
  have := tkL_get (R1 := R1) (R2 := R2) h
  have hk := (List.getElem?_eq_some_iff.1 this).1
  have e2 : (tkL L R1 R2 k)[k] = tkn R1 a := by have h2 := List.getElem?_eq_getElem hk; rw [this] at h2; exact (Option.some.inj h2).symm
  rw [← e2, List.set_getElem_self]
/-- fresh, so far. -/
def freshN (L : List (List Vl)) (R : List (List Ty)) (q : List Ty) (k : Nat) : Bool := (L.take k).any fun vs => takesL q vs && !tkn R vs
theorem freshN_next {L : List (List Vl)} {R : List (List Ty)} {q : List Ty} {k : Nat} {a : List Vl} (h : L[k]? = some a) : freshN L R q (k + 1) = (freshN L R q k || (takesL q a && !tkn R a)) := by
  unfold freshN
  rw [List.take_add_one, h, List.any_append]
  simp
def wholeN (L : List (List Vl)) (R : List (List Ty)) (k : Nat) : Bool := (L.take k).all fun vs => tkn R vs
theorem wholeN_next {L : List (List Vl)} {R : List (List Ty)} {k : Nat} {a : List Vl} (h : L[k]? = some a) : wholeN L R (k + 1) = (wholeN L R k && tkn R a) := by
  unfold wholeN
  rw [List.take_add_one, h, List.all_append]
  simp
/-- A tuple takes a row. -/
theorem takes_tup {q : List Ty} {vs : List Vl} (h : q.length = vs.length) : takes (tup q) (rowV vs) = takesL q vs := by
  unfold tup
  rw [takes]
  show (if (5 = 1 ∨ 5 = 2) then true else if (5 = 3) then _ else if (5 = 6) then _ else if (5 = 5) then (decide (q.length = vs.length) && takesL q vs) else false) = _
  rw [if_neg (by decide), if_neg (by decide), if_neg (by decide), if_pos rfl, decide_eq_true h]
  rfl
end Go.Proofs.Ytigaondgopahgaa
