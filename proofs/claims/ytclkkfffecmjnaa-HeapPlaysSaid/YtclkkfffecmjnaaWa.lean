/- heap: the document's heap in memory; New, Size, has, Used, Count, Of, Get, Word, Oid, Clean, Tie, Untie. -/
import Derived.Test.YtclkkfffecmjnaaDr
import Derived.Test.YtclkkfffecmjnaaAh
import Derived.Test.YtclkkfffecmjnaaDm
import Derived.Test.YtclkkfffecmjnaaAa
namespace Go.Proofs.Ytclkkfffecmjnaa
open Go.RowKit
set_option linter.unusedVariables false
set_option linter.unusedSimpArgs false
attribute [local go_sem] Oper.semAt_some
/-- More is seen; and what is new leads to nothing that is not seen. -/
structure Ext (H : HS) (B B' : List Bool) : Prop where
  len : B'.length = B.length
  mono : ∀ j : Nat, B[j]? = some true → B'[j]? = some true
  clos : ∀ j : Nat, B'[j]? = some true → B[j]? ≠ some true → ∃ x, H.obj (j : Int) = some x ∧ ∀ z ∈ x.o.ws, z.k = 2 → ∀ y, H.obj z.n = some y → B'[y.h]? = some true
theorem Ext.refl (H : HS) (B : List Bool) : Ext H B B := ⟨rfl, fun _ h => h, fun j h hn => absurd h hn⟩
theorem Ext.trans {H : HS} {B B1 B2 : List Bool} (h : Ext H B B1) (h2 : Ext H B1 B2) : Ext H B B2 :=
  ⟨h2.len.trans h.len, fun j hj => h2.mono j (h.mono j hj), fun j hj hn => by
    by_cases h1 : B1[j]? = some true
    · obtain ⟨x, hx, hz⟩ := h.clos j h1 hn
      exact ⟨x, hx, fun z hzm hk y hy => h2.mono _ (hz z hzm hk y hy)⟩
    · exact h2.clos j hj h1⟩
/-- How many are not seen. -/
def nF (B : List Bool) : Nat := B.countP fun b => !b
theorem nF_set : ∀ {B : List Bool} {k : Nat}, B[k]? = some false → nF (B.set k true) + 1 = nF B
  | [], _, h => by simp at h
  | b :: B, 0, h => by
    have : b = false := by simpa using h
    subst this
    unfold nF
    simp
  | b :: B, k + 1, h => by
    have ih := nF_set (B := B) (k := k) (by simpa using h)
    unfold nF at ih ⊢
    rw [List.set_cons_succ, List.countP_cons, List.countP_cons]
    omega
theorem nF_mono : ∀ {B B' : List Bool}, B'.length = B.length → (∀ j : Nat, B[j]? = some true → B'[j]? = some true) → nF B' ≤ nF B
  | [], B', hl, _ => by
    have : B' = [] := List.length_eq_zero_iff.1 hl
    subst this
    exact Nat.le_refl _
  | b :: B, [], hl, _ => by simp at hl
  | b :: B, b' :: B', hl, h => by
    have ih := nF_mono (B := B) (B' := B') (by simpa using hl) fun j hj => by simpa using h (j + 1) (by simpa using hj)
    have h0 := h 0
    unfold nF at ih ⊢
    rw [List.countP_cons, List.countP_cons]
    cases b <;> cases b' <;> simp at h0 ⊢ <;> omega
/-- One is seen, and then all to which it leads. -/
theorem Ext.mark {H : HS} {B B' : List Bool} {k : Nat} {x : Ho} (hx : H.obj (k : Int) = some x) (h : Ext H (B.set k true) B') (hz : ∀ z ∈ x.o.ws, z.k = 2 → ∀ y, H.obj z.n = some y → B'[y.h]? = some true) : Ext H B B' :=
  ⟨by rw [h.len, List.length_set], fun j hj => h.mono j (by
    rw [List.getElem?_set]
    split
    · next e => subst e; have := (List.getElem?_eq_some_iff.1 hj).1; simp [this]
    · exact hj), fun j hj hn => by
    by_cases e : j = k
    · subst e; exact ⟨x, hx, hz⟩
    · exact h.clos j hj (by rw [List.getElem?_set_ne (fun e' => e e'.symm)]; exact hn)⟩
/-- Words that lie in memory stay, where only another block is turned. -/
theorem Words.offq {w w' : World} {A : Option Addr} {ws : List Wd} {q : Nat} (h : Words w A ws) (ho : Off (fun b => b = q) w w') (hq : ∀ p : Addr, A = some p → p.block ≠ q) : Words w' A ws := h.same ho.size fun p e hl => ho.block _ hl (hq p e)
/-- What reach answers. -/
structure Reached (H : HS) (P : Nat → Prop) (k : Int) (B B' : List Bool) : Prop where
  ext : Ext H B B'
  sound : ∀ j : Nat, B'[j]? = some true → P j
  done : ∀ x, H.obj k = some x → B'[x.h]? = some true
theorem reached_no {H : HS} {P : Nat → Prop} {k : Int} {B : List Bool} (hP : ∀ j : Nat, B[j]? = some true → P j) (h : ∀ x, H.obj k = some x → B[x.h]? = some true) : Reached H P k B B := ⟨Ext.refl H B, hP, h⟩
end Go.Proofs.Ytclkkfffecmjnaa
namespace Go.Proofs.Ytclkkfffecmjnaa
open Go.RowKit
set_option linter.unusedVariables false
set_option linter.unusedSimpArgs false
/-- Whether it is seen. -/
def sn (B : List Bool) (j : Nat) : Bool := B[j]?.getD false
theorem sn_iff {B : List Bool} {j : Nat} : sn B j = true ↔ B[j]? = some true := by
  unfold sn
  cases h : B[j]? with
  | none => simp
  | some b => simp
theorem seen_iff {H : HS} {t : Nat} (hok : H.Ok t) {zs : List Int} {B : List Bool} {n : Nat} (hE : Ext H (List.replicate n false) B) (hs : ∀ j : Nat, B[j]? = some true → Reach H (rootC H zs) j) (hd : ∀ z, rootC H zs z → ∀ x, H.obj z = some x → B[x.h]? = some true) :
    ∀ x ∈ H.L, sn B x.h = true ↔ Reach H (rootC H zs) x.h := fun x hx => by
  rw [sn_iff]
  have h : ∀ j, Reach H (rootC H zs) j → B[j]? = some true := fun j hr => by
    induction hr with
    | root hx h0 => exact hd _ h0 _ (HS.obj_of hok hx)
    | @step x y z hx hr hz hk hy e ih =>
      obtain ⟨x', hx', h⟩ := hE.clos x.h ih (by
        rw [List.getElem?_replicate]; split <;> simp)
      rw [HS.obj_of hok hx] at hx'
      cases hx'
      exact h z hz hk y (by rw [← e]; exact HS.obj_of hok hy)
  exact ⟨hs x.h, h x.h⟩
theorem cut_obj (H : HS) (K : Nat → Bool) (k : Nat) : (cutH H K).obj (k : Int) = if K k then H.obj (k : Int) else none := by
  show (H.L.filter fun x => K x.h).find? (fun x => (x.h : Int) == (k : Int)) = if K k then H.L.find? (fun x => (x.h : Int) == (k : Int)) else none
  rw [find_filter]
  by_cases hK : K k = true
  · rw [if_pos hK]
    congr 1
    funext x
    by_cases e : x.h = k
    · rw [e, hK]; simp
    · have : ((x.h : Int) == (k : Int)) = false := by simp; omega
      simp [this]
  · rw [if_neg hK, List.find?_eq_none]
    intro x hx
    by_cases e : x.h = k
    · rw [e]; simp [hK]
    · have : ((x.h : Int) == (k : Int)) = false := by simp; omega
      simp [this]
theorem cut_oid (H : HS) (K : Nat → Bool) (k : Nat) : (cutH H K).oidOf (k : Int) = if K k then H.oidOf (k : Int) else none := by
  show ((H.T.filter fun p => K p.1).find? (fun p => (p.1 : Int) == (k : Int))).map _ = if K k then (H.T.find? (fun p => (p.1 : Int) == (k : Int))).map _ else none
  rw [find_filter]
  by_cases hK : K k = true
  · rw [if_pos hK]
    congr 2
    funext x
    by_cases e : x.1 = k
    · rw [e, hK]; simp
    · have : ((x.1 : Int) == (k : Int)) = false := by simp; omega
      simp [this]
  · rw [if_neg hK, List.find?_eq_none.2]
    · rfl
    · intro x hx
      by_cases e : x.1 = k
      · rw [e]; simp [hK]
      · have : ((x.1 : Int) == (k : Int)) = false := by simp; omega
        simp [this]
theorem no_oid {H : HS} {t : Nat} (hok : H.Ok t) {k : Nat} (h : H.obj (k : Int) = none) : H.oidOf (k : Int) = none := by
  cases ho : H.oidOf (k : Int) with
  | none => rfl
  | some v =>
    obtain ⟨p, hp, e, _⟩ := HS.oid_some ho
    obtain ⟨⟨x, hx, e2⟩, _⟩ := hok.tied p hp
    have := HS.obj_none h x hx
    omega
theorem dirtyL_collect {H : HS} (zs : List Int) : dirtyL (collectH H zs) = dirtyL H := by
  unfold dirtyL
  have e : (collectH H zs).L.filter (fun x => x.dirty) = H.L.filter fun x => x.dirty := by
    unfold collectH cutH
    rw [List.filter_filter]
    refine List.filter_congr fun x hx => ?_
    by_cases hd : x.dirty = true
    · have : Reach H (rootC H zs) x.h := .root hx (.inr (nums_mem.2 ⟨x.h, dirtyL_mem.2 ⟨x, hx, hd, rfl⟩, rfl⟩))
      simp [this, hd]
    · simp [hd]
  rw [e]
theorem reach_again {H : HS} {zs : List Int} {j : Nat} (h : Reach H (rootC H zs) j) : Reach (collectH H zs) (rootC (collectH H zs) zs) j := by
  have hin : ∀ x ∈ H.L, Reach H (rootC H zs) x.h → x ∈ (collectH H zs).L := fun x hx hr => by
    unfold collectH cutH
    exact List.mem_filter.2 ⟨hx, by simpa using hr⟩
  induction h with
  | root hx h0 =>
    refine .root (hin _ hx (.root hx h0)) ?_
    rcases h0 with h0 | h0
    · exact .inl h0
    · exact .inr (by rw [dirtyL_collect]; exact h0)
  | step hx hr hz hk hy e ih => exact .step (hin _ hx hr) ih hz hk (hin _ hy (.step hx hr hz hk hy e)) e
theorem collect_all {G : HS} {zs : List Int} (h : ∀ x ∈ G.L, Reach G (rootC G zs) x.h) : (collectH G zs).L = G.L := by
  unfold collectH cutH
  refine List.filter_eq_self.2 fun x hx => ?_
  simpa using h x hx
theorem collect_in {G : HS} {zs : List Int} {x : Ho} (h : x ∈ (collectH G zs).L) : Reach G (rootC G zs) x.h := by
  unfold collectH cutH at h
  simpa using (List.mem_filter.1 h).2
theorem collect_twice (H : HS) (zs : List Int) : (collectH (collectH H zs) zs).L.length = (collectH H zs).L.length := by
  rw [collect_all fun x hx => reach_again (collect_in hx)]
/-- How many below k are not seen. -/
def wn (H : HS) (B : List Bool) (k : Nat) : Nat := ((lowL H k).filter fun x => !sn B x.h).length
theorem wn_one {H : HS} {t : Nat} (hok : H.Ok t) (B : List Bool) : wn H B 1 = 0 := by unfold wn; rw [low_one hok]; rfl
theorem wn_succ {H : HS} {t : Nat} (hok : H.Ok t) (B : List Bool) (k : Nat) : wn H B (k + 1) = wn H B k + (if (H.obj (k : Int)).isSome && !sn B k then 1 else 0) := by
  unfold wn
  rw [low_succ hok, List.filter_append, List.length_append]
  congr 1
  cases hx : H.obj (k : Int) with
  | none => rfl
  | some x =>
    have e : x.h = k := by have := (HS.obj_some hx).2; omega
    dsimp only
    rw [List.filter_cons, e]
    cases sn B k <;> rfl
theorem wn_le {H : HS} {t : Nat} (hok : H.Ok t) (B : List Bool) (k : Nat) : wn H B k ≤ H.L.length := by
  unfold wn lowL
  exact Nat.le_trans (List.length_filter_le _ _) (List.length_filter_le _ _)
theorem filter_parts {α : Type} (p : α → Bool) : ∀ L : List α, (L.filter fun x => !p x).length + (L.filter p).length = L.length
  | [] => rfl
  | x :: L => by
    have ih := filter_parts p L
    rw [List.filter_cons, List.filter_cons, List.length_cons]
    cases p x <;> simp <;> omega
theorem wn_all {H : HS} {t : Nat} (hok : H.Ok t) (B : List Bool) : wn H B (H.count + 1) + (cutH H (sn B)).L.length = H.L.length := by
  have e : lowL H (H.count + 1) = H.L := by
    unfold lowL
    exact List.filter_eq_self.2 fun x hx => by have := hok.inn x hx; simp; omega
  unfold wn
  rw [e]
  exact filter_parts (fun x : Ho => sn B x.h) H.L
end Go.Proofs.Ytclkkfffecmjnaa
namespace Go.Proofs.Ytclkkfffecmjnaa
open Go.RowKit
set_option linter.unusedVariables false
/-- A thing of the document's heap. -/
structure Tg where
  o : Ob
  is : Bool
  oid : Nat
  dirty : Bool
  A : Option Addr
  c : Nat
def noTg : Tg := ⟨noOb, false, 0, false, none, 0⟩
def tgC (x : Tg) : List Value := [.int .u8 (x.o.k : Int), .int .i64 x.o.tag, .slice x.A x.o.ws.length x.c, .string (str x.o.t), .bool x.is, .int .i64 (x.oid : Int), .bool x.dirty]
def flatG (T : List Tg) : List Value := T.flatMap tgC
theorem flatG_cons (x : Tg) (T : List Tg) : flatG (x :: T) = tgC x ++ flatG T := rfl
theorem flatG_app (a b : List Tg) : flatG (a ++ b) = flatG a ++ flatG b := by unfold flatG; rw [List.flatMap_append]
theorem tgC_len (x : Tg) : (tgC x).length = 7 := rfl
theorem flatG_len (T : List Tg) : (flatG T).length = T.length * 7 := by
  induction T with
  | nil => rfl
  | cons x T ih => rw [flatG_cons, List.length_append, ih, tgC_len, List.length_cons]; omega
theorem flatG_get {T : List Tg} {k j : Nat} {x : Tg} {v : Value} (h : T[k]? = some x) (hj : (tgC x)[j]? = some v) : (flatG T)[k * 7 + j]? = some v := by
  induction T generalizing k with
  | nil => simp at h
  | cons y T ih =>
    have hj7 : j < 7 := by rw [← tgC_len x]; exact (List.getElem?_eq_some_iff.1 hj).1
    cases k with
    | zero =>
      simp at h
      subst h
      rw [flatG_cons, Nat.zero_mul, Nat.zero_add, List.getElem?_append_left (by rw [tgC_len]; exact hj7)]
      exact hj
    | succ k =>
      rw [flatG_cons, List.getElem?_append_right (by rw [tgC_len]; omega), tgC_len, show (k + 1) * 7 + j - 7 = k * 7 + j by omega]
      exact ih (by simpa using h)
theorem flatG_put {T : List Tg} {k j : Nat} {x x' : Tg} {v : Value} (h : T[k]? = some x) (hj : j < 7) (hx : tgC x' = (tgC x).set j v) : flatG (T.set k x') = (flatG T).set (k * 7 + j) v := by
  induction T generalizing k with
  | nil => simp at h
  | cons y T ih =>
    cases k with
    | zero =>
      simp at h
      subst h
      rw [List.set_cons_zero, flatG_cons, flatG_cons, hx, Nat.zero_mul, Nat.zero_add, List.set_append_left _ _ (by rw [tgC_len]; exact hj)]
    | succ k =>
      rw [List.set_cons_succ, flatG_cons, flatG_cons, ih (by simpa using h), List.set_append_right _ _ (by rw [tgC_len]; omega), tgC_len, show (k + 1) * 7 + j - 7 = k * 7 + j by omega]
/-- A row of things. -/
structure RowG (w : World) (q c : Nat) (T : List Tg) : Prop where
  ex : ∃ cur : Array Value, Blk w q 86 cur ∧ cur.size = c * 7 ∧ cur.toList.take (T.length * 7) = flatG T
  le : T.length ≤ c
  max : c ≤ maxLen
section
variable {w w' : World} {q c : Nat} {T : List Tg}
theorem RowG.lt (h : RowG w q c T) : q < w.heap.size := by obtain ⟨cur, hb, _⟩ := h.ex; exact hb.lt
theorem RowG.same (h : RowG w q c T) (he : w'.heap[q]? = w.heap[q]?) : RowG w' q c T := by
  obtain ⟨cur, hb, h1, h2⟩ := h.ex
  exact ⟨⟨cur, hb.same he, h1, h2⟩, h.le, h.max⟩
theorem RowG.cell (h : RowG w q c T) {k j : Nat} {x : Tg} {v : Value} (hk : T[k]? = some x) (hj : (tgC x)[j]? = some v) : w.cell? ⟨q, k * 7 + j, none⟩ = some v := by
  obtain ⟨cur, hb, _, h2⟩ := h.ex
  have h3 := flatG_get hk hj
  have hkl := (List.getElem?_eq_some_iff.1 hk).1
  have hj7 : j < 7 := by rw [← tgC_len x]; exact (List.getElem?_eq_some_iff.1 hj).1
  rw [← h2, List.getElem?_take_of_lt (by omega)] at h3
  rw [hb.cell]
  simpa using h3
theorem RowG.frozen (h : RowG w q c T) (j : Nat) : w.frozen? ⟨q, j, none⟩ = false := by
  obtain ⟨cur, hb, _⟩ := h.ex
  exact hb.frozen j
theorem RowG.put (h : RowG w q c T) {k j : Nat} {x x' : Tg} {v : Value} (hk : T[k]? = some x) (hj : j < 7) (hx : tgC x' = (tgC x).set j v) : RowG (w.setCell ⟨q, k * 7 + j, none⟩ v) q c (T.set k x') := by
  obtain ⟨cur, hb, h1, h2⟩ := h.ex
  refine ⟨⟨_, hb.set_ (k * 7 + j) v, by rw [Array.size_setIfInBounds]; exact h1, ?_⟩, by rw [List.length_set]; exact h.le, h.max⟩
  rw [List.length_set, flatG_put hk hj hx, Array.toList_setIfInBounds, List.take_set, h2]
/-- All seven cells of a thing. -/
theorem RowG.told (h : RowG w q c T) {k : Nat} {x : Tg} (hk : T[k]? = some x) : w.cell? ⟨q, k * 7, none⟩ = some (.int .u8 (x.o.k : Int)) ∧ w.cell? ⟨q, k * 7 + 1, none⟩ = some (.int .i64 x.o.tag) ∧ w.cell? ⟨q, k * 7 + 2, none⟩ = some (.slice x.A x.o.ws.length x.c) ∧ w.cell? ⟨q, k * 7 + 3, none⟩ = some (.string (str x.o.t)) ∧ w.cell? ⟨q, k * 7 + 4, none⟩ = some (.bool x.is) ∧ w.cell? ⟨q, k * 7 + 5, none⟩ = some (.int .i64 (x.oid : Int)) ∧ w.cell? ⟨q, k * 7 + 6, none⟩ = some (.bool x.dirty) :=
  ⟨h.cell (j := 0) hk rfl, h.cell hk rfl, h.cell hk rfl, h.cell hk rfl, h.cell hk rfl, h.cell hk rfl, h.cell hk rfl⟩
end
/-- The document's heap in memory. -/
structure RM (w : World) (r q c : Nat) (R : Nat → Lab) (lim : Nat) (T : List Tg) : Prop where
  head : Blk w r 83 #[.int .i64 (lim : Int), .slice (some ⟨q, 0, none⟩) T.length c]
  row : RowG w q c T
  words : ∀ (k : Nat) (x : Tg), T[k]? = some x → WRow 0 w x.A x.o.ws.length x.c x.o.ws ∧ ∀ p : Addr, x.A = some p → R p.block = .wd k
  rg : R r = .hd
  rq : R q = .mp 0
  lt : ∀ b, R b ≠ .no → b < w.heap.size
section
variable {w w' : World} {r q c lim : Nat} {R : Nat → Lab} {T : List Tg}
theorem RM.keep (h : RM w r q c R lim T) (hs : w.heap.size ≤ w'.heap.size) (hk : ∀ b, R b ≠ .no → w'.heap[b]? = w.heap[b]?) : RM w' r q c R lim T :=
  ⟨h.head.same (hk _ (by rw [h.rg]; intro e; cases e)), h.row.same (hk _ (by rw [h.rq]; intro e; cases e)), fun k x hx => by
    obtain ⟨h1, h2⟩ := h.words k x hx
    exact ⟨h1.same hs fun p e => hk _ (by rw [h2 p e]; intro e; cases e), h2⟩, h.rg, h.rq, fun b hb => Nat.lt_of_lt_of_le (h.lt b hb) hs⟩
theorem RM.below (h : RM w r q c R lim T) (hb : Below w.heap.size w w') : RM w' r q c R lim T := h.keep hb.size fun b hR => hb.block b (h.lt b hR)
theorem RM.told (h : RM w r q c R lim T) : w.cell? ⟨r, 0, none⟩ = some (.int .i64 (lim : Int)) ∧ w.cell? ⟨r, 1, none⟩ = some (.slice (some ⟨q, 0, none⟩) T.length c) ∧ ∀ j, w.frozen? ⟨r, j, none⟩ = false := ⟨h.head.cell 0, h.head.cell 1, h.head.frozen⟩
end
/-- What it says. -/
structure Says (H : HS) (T : List Tg) : Prop where
  len : T.length = H.count + 1
  at_ : ∀ (k : Nat) (x : Tg), T[k]? = some x → x.o = getO H (k : Int) ∧ x.is = (H.obj (k : Int)).isSome ∧ x.oid = (H.oidOf (k : Int)).getD 0 ∧ x.dirty = isD H (k : Int)
/-- The document's heap, which says H. -/
def RX (w : World) (r : Nat) (R : Nat → Lab) (H : HS) : Prop := ∃ q c T, RM w r q c R H.limit T ∧ Says H T
/-- A step of it. -/
def Stp (w w' : World) (r : Nat) (R : Nat → Lab) (H' : HS) : Prop := ∃ R', RX w' r R' H' ∧ Off (fun b => R b ≠ .no) w w' ∧ ∀ b, R' b ≠ .no → R b ≠ .no ∨ w.heap.size ≤ b
section
variable {w w' w2 : World} {r : Nat} {R : Nat → Lab} {H : HS}
theorem RX.keep (h : RX w r R H) (hs : w.heap.size ≤ w'.heap.size) (hk : ∀ b, R b ≠ .no → w'.heap[b]? = w.heap[b]?) : RX w' r R H := by
  obtain ⟨q, c, T, h1, h2⟩ := h
  exact ⟨q, c, T, h1.keep hs hk, h2⟩
theorem RX.lt (h : RX w r R H) : ∀ b, R b ≠ .no → b < w.heap.size := by
  obtain ⟨q, c, T, h1, h2⟩ := h
  exact h1.lt
theorem RX.below (h : RX w r R H) (hb : Below w.heap.size w w') : RX w' r R H := h.keep hb.size fun b hR => hb.block b (h.lt b hR)
theorem Stp.of_below (h : RX w r R H) (hb : Below w.heap.size w w') : Stp w w' r R H := ⟨R, h.below hb, Off.of_new hb _, fun b hb => .inl hb⟩
theorem Stp.after {H' : HS} (hb : Below w.heap.size w w2) (hR : ∀ b, R b ≠ .no → b < w.heap.size) (h : Stp w2 w' r R H') : Stp w w' r R H' := by
  obtain ⟨R', h1, h2, h3⟩ := h
  exact ⟨R', h1, (Off.of_new hb _).trans h2, fun b hb' => (h3 b hb').imp id fun e => Nat.le_trans hb.size e⟩
theorem obj_nat {H : HS} {t : Nat} (hok : H.Ok t) {k : Nat} (hk : H.count < k) : H.obj (k : Int) = none := by
  cases hx : H.obj (k : Int) with
  | none => rfl
  | some x =>
    obtain ⟨h1, h2⟩ := HS.obj_some hx
    have := (hok.inn x h1).2.1
    omega
end
end Go.Proofs.Ytclkkfffecmjnaa
namespace Go.Proofs.Ytclkkfffecmjnaa
open Go.RowKit
set_option linter.unusedVariables false
set_option linter.unusedSimpArgs false
theorem getO_of {H : HS} {k : Int} {x : Ho} (h : H.obj k = some x) : getO H k = x.o := by unfold getO; rw [h]
theorem getO_no {H : HS} {k : Int} (h : H.obj k = none) : getO H k = noOb := by unfold getO; rw [h]
theorem getO_congr {H H' : HS} {k : Int} (h : H'.obj k = H.obj k) : getO H' k = getO H k := by unfold getO; rw [h]
theorem isD_congr {H H' : HS} {k : Int} (h : H'.obj k = H.obj k) : isD H' k = isD H k := by unfold isD; rw [h]
theorem upd_obj {H H' : HS} {t : Nat} (hok : H.Ok t) {x y : Ho} (hx : x ∈ H.L) (hy : y.h = x.h) (hL : H'.L = updL y H.L) (j : Int) : H'.obj j = if j = (x.h : Int) then some y else H.obj j := by
  unfold HS.obj
  rw [hL, updL_find]
  by_cases e : j = (x.h : Int)
  · rw [if_pos e, e]
    have h1 := HS.obj_of hok hx
    unfold HS.obj at h1
    rw [h1]
    simp [hy]
  · rw [if_neg e]
    cases hf : H.L.find? (fun x => (x.h : Int) == j) with
    | none => rfl
    | some z =>
      have h1 : (z.h : Int) = j := by have := List.find?_some hf; simpa using this
      have h2 : z.h ≠ y.h := by omega
      simp [h2]
theorem pw_ne {T : List (Nat × Nat)} (h : T.Pairwise fun p q => p.1 ≠ q.1 ∧ p.2 ≠ q.2) : ∀ p ∈ T, ∀ q ∈ T, p ≠ q → p.1 ≠ q.1 ∧ p.2 ≠ q.2 := by
  induction T with
  | nil => intro p hp; cases hp
  | cons z T ih =>
    obtain ⟨h1, h2⟩ := List.pairwise_cons.1 h
    intro p hp q hq hne
    rcases List.mem_cons.1 hp with e1 | hp1
    · rcases List.mem_cons.1 hq with e2 | hq1
      · exact absurd (e1.trans e2.symm) hne
      · rw [e1]; exact h1 q hq1
    · rcases List.mem_cons.1 hq with e2 | hq1
      · rw [e2]; have := h1 p hp1; exact ⟨fun e => this.1 e.symm, fun e => this.2 e.symm⟩
      · exact ih h2 p hp1 q hq1 hne
theorem ofOid_of {H : HS} {t : Nat} (hok : H.Ok t) {k o : Nat} (h : H.oidOf (k : Int) = some o) : H.ofOid (o : Int) = some k := by
  obtain ⟨p, hp, e1, e2⟩ := HS.oid_some h
  cases hf : H.ofOid (o : Int) with
  | none => exact absurd (by rw [e2]) (HS.of_none hf p hp)
  | some j =>
    obtain ⟨p', hp', e3, e4⟩ := HS.of_some hf
    by_cases e : p = p'
    · subst e
      have : p.1 = k := by omega
      rw [← e4, this]
    · exfalso
      exact (pw_ne hok.ties p hp p' hp' e).2 (by omega)
theorem oid_pos {H : HS} {t : Nat} (hok : H.Ok t) {k : Int} {o : Nat} (h : H.oidOf k = some o) : 1 ≤ o ∧ o ≤ 16384 := by
  obtain ⟨p, hp, _, e2⟩ := HS.oid_some h
  have := (hok.tied p hp).2
  omega
theorem oid_there {H : HS} {t : Nat} (hok : H.Ok t) {k : Nat} {o : Nat} (h : H.oidOf (k : Int) = some o) : ∃ x, H.obj (k : Int) = some x := by
  obtain ⟨p, hp, e1, _⟩ := HS.oid_some h
  obtain ⟨⟨x, hx, e2⟩, _⟩ := hok.tied p hp
  have e : x.h = k := by omega
  exact ⟨x, by rw [← e]; exact HS.obj_of hok hx⟩
theorem dirty_tied {H : HS} {t : Nat} (hok : H.Ok t) {k : Nat} {x : Ho} (hx : H.obj (k : Int) = some x) (h : H.oidOf (k : Int) = none) : x.dirty = false := by
  cases hd : x.dirty with
  | false => rfl
  | true =>
    obtain ⟨h1, h2⟩ := HS.obj_some hx
    obtain ⟨p, hp, e⟩ := hok.dirty x h1 hd
    exact absurd (by omega) (HS.oid_none h p hp)
section
variable {H H' : HS} {T : List Tg}
theorem Says.get (h : Says H T) {k : Nat} (hk : k ≤ H.count) : ∃ x, T[k]? = some x := ⟨_, List.getElem?_eq_getElem (by rw [h.len]; omega)⟩
theorem Says.set_ (h : Says H T) {k : Nat} {x' : Tg} (hc : H'.count = H.count) (hobj : ∀ j : Nat, j ≠ k → H'.obj (j : Int) = H.obj (j : Int)) (hoid : ∀ j : Nat, j ≠ k → H'.oidOf (j : Int) = H.oidOf (j : Int))
    (hx : x'.o = getO H' (k : Int) ∧ x'.is = (H'.obj (k : Int)).isSome ∧ x'.oid = (H'.oidOf (k : Int)).getD 0 ∧ x'.dirty = isD H' (k : Int)) : Says H' (T.set k x') := by
  refine ⟨by rw [List.length_set, h.len, hc], fun j z hz => ?_⟩
  by_cases e : j = k
  · subst e
    have hj : j < T.length := by have := (List.getElem?_eq_some_iff.1 hz).1; rw [List.length_set] at this; exact this
    rw [List.getElem?_set_self hj] at hz
    cases hz
    exact hx
  · rw [List.getElem?_set_ne (fun e' => e e'.symm)] at hz
    obtain ⟨h1, h2, h3, h4⟩ := h.at_ j z hz
    rw [getO_congr (hobj j e), isD_congr (hobj j e), hobj j e, hoid j e]
    exact ⟨h1, h2, h3, h4⟩
/-- An object is turned. -/
theorem Says.upd {t : Nat} (h : Says H T) (hok : H.Ok t) {k : Nat} {x y : Ho} (hx : H.obj (k : Int) = some x) (hy : y.h = x.h) (hL : H'.L = updL y H.L) (hc : H'.count = H.count) (hoid : ∀ j : Nat, j ≠ k → H'.oidOf (j : Int) = H.oidOf (j : Int)) {x' : Tg}
    (h1 : x'.o = y.o) (h2 : x'.is = true) (h3 : x'.oid = (H'.oidOf (k : Int)).getD 0) (h4 : x'.dirty = y.dirty) : Says H' (T.set k x') := by
  obtain ⟨hxl, hxk⟩ := HS.obj_some hx
  have ho : H'.obj (k : Int) = some y := by rw [upd_obj hok hxl hy hL, if_pos (by omega)]
  refine h.set_ hc (fun j hj => by rw [upd_obj hok hxl hy hL, if_neg (by omega)]) hoid ⟨by rw [getO_of ho]; exact h1, by rw [ho]; exact h2, h3, by rw [isD_of ho]; exact h4⟩
theorem alloc_obj2 {t : Nat} (hok : H.Ok t) (o : Ob) (j : Nat) : (allocH H o).obj (j : Int) = if j = H.count + 1 then some ⟨H.count + 1, o, false⟩ else H.obj (j : Int) := by
  by_cases e : j = H.count + 1
  · rw [if_pos e, e]; exact alloc_obj hok o
  · rw [if_neg e]
    show (H.L ++ [(⟨H.count + 1, o, false⟩ : Ho)]).find? (fun x => (x.h : Int) == (j : Int)) = H.L.find? (fun x => (x.h : Int) == (j : Int))
    rw [List.find?_append]
    have hn : (([⟨H.count + 1, o, false⟩] : List Ho).find? fun x => (x.h : Int) == (j : Int)) = none := by
      have : (((H.count + 1 : Nat) : Int) == (j : Int)) = false := by simp; omega
      simp only [List.find?_cons, List.find?_nil]
      rw [this]
    rw [hn]; simp
theorem Says.add {t : Nat} (h : Says H T) (hok : H.Ok t) {o : Ob} (hm : Hp.mayO o = true) {x' : Tg} (h1 : x'.o = o) (h2 : x'.is = true) (h3 : (x'.oid : Int) = if o.k = 8 then o.tag else 0) (h4 : x'.dirty = false) : Says (allocH H o) (T ++ [x']) := by
  obtain ⟨_, hfo⟩ := fresh hok
  have hoid : ∀ j : Nat, (allocH H o).oidOf (j : Int) = if j = H.count + 1 ∧ o.k = 8 then some o.tag.toNat else H.oidOf (j : Int) := fun j => by
    by_cases h8 : o.k = 8
    · have e := congrFun (oid_add H (H.count + 1) o.tag.toNat hfo) (j : Int)
      have e2 : (allocH H o).oidOf (j : Int) = { H with T := H.T ++ [(H.count + 1, o.tag.toNat)] }.oidOf (j : Int) := by
        unfold HS.oidOf allocH
        simp [h8]
      rw [e2, ← e]
      by_cases e : j = H.count + 1
      · rw [if_pos (by omega), if_pos ⟨e, h8⟩]
      · rw [if_neg (by omega), if_neg (fun e' => e e'.1)]
    · rw [if_neg (fun e => h8 e.2)]
      unfold HS.oidOf allocH
      simp [h8]
  refine ⟨by rw [List.length_append, h.len]; rfl, fun j z hz => ?_⟩
  by_cases e : j = H.count + 1
  · subst e
    rw [List.getElem?_append_right (by rw [h.len]; omega), h.len] at hz
    simp at hz
    subst hz
    have ho : (allocH H o).obj ((H.count + 1 : Nat) : Int) = some ⟨H.count + 1, o, false⟩ := alloc_obj hok o
    refine ⟨by rw [getO_of ho]; exact h1, by rw [ho]; exact h2, ?_, by rw [isD_of ho]; exact h4⟩
    rw [hoid]
    by_cases h8 : o.k = 8
    · rw [if_pos ⟨rfl, h8⟩]
      rw [if_pos h8] at h3
      show x'.oid = o.tag.toNat
      omega
    · rw [if_neg (fun e => h8 e.2), hfo]
      rw [if_neg h8] at h3
      show x'.oid = 0
      omega
  · have hj : j < T.length := by
      have := (List.getElem?_eq_some_iff.1 hz).1
      rw [List.length_append, List.length_singleton] at this
      have := h.len
      omega
    rw [List.getElem?_append_left hj] at hz
    obtain ⟨q1, q2, q3, q4⟩ := h.at_ j z hz
    have ho : (allocH H o).obj (j : Int) = H.obj (j : Int) := by rw [alloc_obj2 hok, if_neg e]
    rw [getO_congr ho, isD_congr ho, ho, hoid, if_neg (fun e' => e e'.1)]
    exact ⟨q1, q2, q3, q4⟩
theorem Says.cut {t : Nat} (h : Says H T) (hok : H.Ok t) (K : Nat → Bool) {T' : List Tg} (hl : T'.length = T.length) (hp : ∀ (j : Nat) (x : Tg), T[j]? = some x → T'[j]? = some (if x.is = true ∧ K j = false then noTg else x)) : Says (cutH H K) T' := by
  refine ⟨by rw [hl, h.len]; rfl, fun j z hz => ?_⟩
  have hj : j < T.length := by rw [← hl]; exact (List.getElem?_eq_some_iff.1 hz).1
  obtain ⟨x, hx⟩ : ∃ x, T[j]? = some x := ⟨_, List.getElem?_eq_getElem hj⟩
  have hz2 := hp j x hx
  rw [hz] at hz2
  obtain ⟨q1, q2, q3, q4⟩ := h.at_ j x hx
  have ho := cut_obj H K j
  have ht := cut_oid H K j
  cases hK : K j with
  | true =>
    rw [hK, if_pos rfl] at ho ht
    rw [if_neg (by rw [hK]; simp)] at hz2
    cases hz2
    rw [getO_congr ho, isD_congr ho, ho, ht]
    exact ⟨q1, q2, q3, q4⟩
  | false =>
    rw [hK, if_neg (by simp)] at ho ht
    rw [getO_no ho, isD_no ho, ho, ht]
    cases hi : x.is with
    | true =>
      rw [if_pos ⟨hi, hK⟩] at hz2
      cases hz2
      exact ⟨rfl, rfl, rfl, rfl⟩
    | false =>
      rw [if_neg (by rw [hi]; simp)] at hz2
      cases hz2
      have hno : H.obj (j : Int) = none := by
        cases hx : H.obj (j : Int) with
        | none => rfl
        | some y => rw [hx, hi] at q2; cases q2
      rw [getO_no hno] at q1
      rw [isD_no hno] at q4
      rw [no_oid hok hno] at q3
      exact ⟨q1, hi, q3, q4⟩
end
section
variable {w w' : World} {r q c lim : Nat} {R : Nat → Lab} {T : List Tg}
/-- A cell of a thing is turned. -/
theorem RM.put (h : RM w r q c R lim T) {k j : Nat} {x x' : Tg} {v : Value} (hk : T[k]? = some x) (hj : j < 7) (hx : tgC x' = (tgC x).set j v) (hA : x'.A = x.A) (hc : x'.c = x.c) (hw : x'.o.ws = x.o.ws) : RM (w.setCell ⟨q, k * 7 + j, none⟩ v) r q c R lim (T.set k x') := by
  have ho := Off.setc w q (k * 7 + j) v
  have hrq : r ≠ q := fun e => by have := h.rg; rw [e, h.rq] at this; cases this
  refine ⟨by rw [List.length_set]; exact h.head.off ho hrq, h.row.put hk hj hx, fun i z hz => ?_, h.rg, h.rq, fun b hb => Nat.lt_of_lt_of_le (h.lt b hb) ho.size⟩
  have hne : ∀ (i : Nat) (z : Tg), T[i]? = some z → WRow 0 (w.setCell ⟨q, k * 7 + j, none⟩ v) z.A z.o.ws.length z.c z.o.ws ∧ ∀ p : Addr, z.A = some p → R p.block = .wd i := fun i z hz => by
    obtain ⟨h1, h2⟩ := h.words i z hz
    exact ⟨h1.same ho.size fun p e => ho.block _ (h1.blk p e).2.2.2 (fun e' => by have h3 := h2 p e; rw [e', h.rq] at h3; cases h3), h2⟩
  by_cases e : i = k
  · subst e
    rw [List.getElem?_set_self (by have := (List.getElem?_eq_some_iff.1 hk).1; exact this)] at hz
    cases hz
    rw [hA, hc, hw]
    exact hne i x hk
  · rw [List.getElem?_set_ne (fun e' => e e'.symm)] at hz
    exact hne i z hz
theorem Wd.tg_set (x : Tg) (i : Nat) (z : Wd) : tgC { x with o := { x.o with ws := x.o.ws.set i z } } = tgC x := by unfold tgC; simp
theorem flatG_same {T : List Tg} {k : Nat} {x x' : Tg} (h : T[k]? = some x) (hx : tgC x' = tgC x) : flatG (T.set k x') = flatG T := by
  induction T generalizing k with
  | nil => simp at h
  | cons y T ih =>
    cases k with
    | zero =>
      simp at h
      subst h
      rw [List.set_cons_zero, flatG_cons, flatG_cons, hx]
    | succ k => rw [List.set_cons_succ, flatG_cons, flatG_cons, ih (by simpa using h)]
/-- A word of a thing is turned. -/
theorem RM.word (h : RM w r q c R lim T) {k i b : Nat} {x : Tg} (hk : T[k]? = some x) (hA : x.A = some ⟨b, 0, none⟩) (z : Wd) (hz : z.ok) : RM ((w.setCell ⟨b, i * 2, none⟩ (.int .u8 (z.k : Int))).setCell ⟨b, i * 2 + 1, none⟩ (.int .i64 z.n)) r q c R lim (T.set k { x with o := { x.o with ws := x.o.ws.set i z } }) := by
  obtain ⟨w1, hw1⟩ : ∃ w1, (w.setCell ⟨b, i * 2, none⟩ (.int .u8 (z.k : Int))).setCell ⟨b, i * 2 + 1, none⟩ (.int .i64 z.n) = w1 := ⟨_, rfl⟩
  have ho : Off (fun j => j = b) w w1 := by rw [← hw1]; exact offS (Off.setc _ _ _ _) _ _ _ rfl
  obtain ⟨hr, hl⟩ := h.words k x hk
  have hb : R b = .wd k := hl _ hA
  have hrb : r ≠ b := fun e => by have h3 := h.rg; rw [e, hb] at h3; cases h3
  have hqb : q ≠ b := fun e => by have h3 := h.rq; rw [e, hb] at h3; cases h3
  have hset := (by rw [hA] at hr; exact hr : WRow 0 w (some ⟨b, 0, none⟩) x.o.ws.length x.c x.o.ws).set_ i z hz
  rw [hw1] at hset ⊢
  refine ⟨by rw [List.length_set]; exact h.head.off ho hrb, ?_, fun j y hy => ?_, h.rg, h.rq, fun j hj => Nat.lt_of_lt_of_le (h.lt j hj) ho.size⟩
  · obtain ⟨cur, hbk, h1, h2⟩ := h.row.ex
    refine ⟨⟨cur, hbk.off ho hqb, h1, ?_⟩, by rw [List.length_set]; exact h.row.le, h.row.max⟩
    rw [List.length_set, flatG_same hk (Wd.tg_set x i z)]
    exact h2
  · by_cases e : j = k
    · subst e
      rw [List.getElem?_set_self (by have := (List.getElem?_eq_some_iff.1 hk).1; exact this)] at hy
      cases hy
      refine ⟨?_, hl⟩
      dsimp only
      rw [hA, List.length_set]
      exact hset
    · rw [List.getElem?_set_ne (fun e' => e e'.symm)] at hy
      obtain ⟨h1, h2⟩ := h.words j y hy
      exact ⟨h1.same ho.size fun p e' => ho.block _ (h1.blk p e').2.2.2 fun e2 => by
        have h3 := h2 p e'
        have e2 : p.block = b := e2
        rw [e2, hb] at h3
        injection h3 with h3
        exact e h3.symm, h2⟩
/-- A thing is another object. -/
theorem RM.fill (h : RM w r q c R lim T) {k c' : Nat} {x : Tg} {o : Ob} {A : Option Addr} (hk : T[k]? = some x) (hr : WRow 0 w A o.ws.length c' o.ws) (hA : ∀ p : Addr, A = some p → R p.block = .no) : RM ((((w.setCell ⟨q, k * 7, none⟩ (.int .u8 (o.k : Int))).setCell ⟨q, k * 7 + 1, none⟩ (.int .i64 o.tag)).setCell ⟨q, k * 7 + 2, none⟩ (.slice A o.ws.length c')).setCell ⟨q, k * 7 + 3, none⟩ (.string (str o.t))) r q c (addR R k A) lim (T.set k { x with o := o, A := A, c := c' }) := by
  obtain ⟨w1, hw1⟩ : ∃ w1, (((w.setCell ⟨q, k * 7, none⟩ (.int .u8 (o.k : Int))).setCell ⟨q, k * 7 + 1, none⟩ (.int .i64 o.tag)).setCell ⟨q, k * 7 + 2, none⟩ (.slice A o.ws.length c')).setCell ⟨q, k * 7 + 3, none⟩ (.string (str o.t)) = w1 := ⟨_, rfl⟩
  have ho : Off (fun j => j = q) w w1 := by rw [← hw1]; exact offS (offS (offS (Off.setc _ _ _ _) _ _ _ rfl) _ _ _ rfl) _ _ _ rfl
  have hrow : RowG w1 q c (T.set k { x with o := o, A := A, c := c' }) := by
    have hkl := (List.getElem?_eq_some_iff.1 hk).1
    have r1 := h.row.put (x' := { x with o := { x.o with k := o.k } }) (j := 0) (v := .int .u8 (o.k : Int)) hk (by omega) rfl
    rw [Nat.add_zero] at r1
    have r2 := r1.put (x' := { x with o := { x.o with k := o.k, tag := o.tag } }) (j := 1) (v := .int .i64 o.tag) (List.getElem?_set_self hkl) (by omega) rfl
    rw [List.set_set] at r2
    have r3 := r2.put (x' := { x with o := { k := o.k, tag := o.tag, ws := o.ws, t := x.o.t }, A := A, c := c' }) (j := 2) (v := .slice A o.ws.length c') (List.getElem?_set_self hkl) (by omega) rfl
    rw [List.set_set] at r3
    have r4 := r3.put (x' := { x with o := o, A := A, c := c' }) (j := 3) (v := .string (str o.t)) (List.getElem?_set_self hkl) (by omega) rfl
    rw [List.set_set, hw1] at r4
    exact r4
  rw [hw1]
  have hRs : ∀ b, R b ≠ .no → addR R k A b = R b := fun b hb => by
    unfold addR
    split
    · next e =>
      exfalso
      cases hA' : A with
      | none => rw [hA'] at e; cases e
      | some p => rw [hA'] at e; injection e with e; exact hb (by rw [← e]; exact hA p hA')
    · rfl
  have hrq : r ≠ q := fun e => by have := h.rg; rw [e, h.rq] at this; cases this
  refine ⟨by rw [List.length_set]; exact h.head.off ho hrq, hrow, fun j y hy => ?_, (hRs r (by rw [h.rg]; intro e; cases e)).trans h.rg, (hRs q (by rw [h.rq]; intro e; cases e)).trans h.rq, fun b hb => ?_⟩
  · by_cases e : j = k
    · subst e
      rw [List.getElem?_set_self (by have := (List.getElem?_eq_some_iff.1 hk).1; exact this)] at hy
      cases hy
      exact ⟨hr.same ho.size fun p e => ho.block _ (hr.blk p e).2.2.2 (fun e' => by have h3 := hA p e; rw [e', h.rq] at h3; cases h3), fun p e => addR_at e⟩
    · rw [List.getElem?_set_ne (fun e' => e e'.symm)] at hy
      obtain ⟨h1, h2⟩ := h.words j y hy
      exact ⟨h1.same ho.size fun p e => ho.block _ (h1.blk p e).2.2.2 (fun e' => by have h3 := h2 p e; rw [e', h.rq] at h3; cases h3), fun p e => (hRs _ (by rw [h2 p e]; intro e; cases e)).trans (h2 p e)⟩
  · rcases addR_or hb with h1 | ⟨p, hp, rfl⟩
    · exact Nat.lt_of_lt_of_le (h.lt b h1) ho.size
    · exact Nat.lt_of_lt_of_le (hr.blk p hp).2.2.2 ho.size
/-- A thing more. -/
theorem RM.add (h : RM w r q c R lim T) (x : Tg) (hr : WRow 0 w x.A x.o.ws.length x.c x.o.ws) (hA : ∀ p : Addr, x.A = some p → R p.block = .no) (b : Nat) (hb : ∀ (j : Nat) (v : Value), (tgC x)[j]? = some v → w.cell? ⟨b, j, none⟩ = some v) (hl : T.length < 1000000) :
    ∃ q' c' w', (Builtin.append_ #[81, 81] 81 #[.slice (some ⟨q, 0, none⟩) T.length c, .slice (some ⟨b, 0, none⟩) 1 1]).run Try.prog w = .ok (.slice (some ⟨q', 0, none⟩) (T.length + 1) c') w' ∧
      Off (fun j => j = q) w w' ∧ r < w'.heap.size ∧ (∀ R' : Nat → Lab, (∀ b, R b ≠ .no → R' b = R b) → (∀ p : Addr, x.A = some p → R' p.block = .wd T.length) → R' q' = .mp 0 → (∀ b, R' b ≠ .no → b < w'.heap.size) → RM (w'.setCell ⟨r, 1, none⟩ (.slice (some ⟨q', 0, none⟩) (T.length + 1) c')) r q' c' R' lim (T ++ [x])) ∧ (q' = q ∨ q' = w.heap.size) ∧ q' < w'.heap.size := by
  have hI : (Try.prog.info? 86).map (fun i => (i.zero, i.size, i.bytes)) = some (some (.agg #[.int .u8 0, .int .i64 0, .slice none 0 0, .string ⟨#[]⟩, .bool false, .int .i64 0, .bool false]), 7, 80) := by kernel_rfl
  obtain ⟨i0, hi, hz0, hz1, hz2⟩ := info_parts hI
  obtain ⟨cur, hbk, h1, h2⟩ := h.row.ex
  have hown : w.ownsRow 0 86 7 (.slice (some ⟨q, 0, none⟩) T.length c) T.length (flatG T) :=
    ⟨by rw [flatG_len], .inr ⟨q, c, cur, rfl, Nat.zero_le _, hbk, h.row.le, h.row.max, by rw [h1], h2⟩⟩
  have hcell : ∀ (j : Nat) (u : Value), (tgC x)[j]? = some u → w.cell? ((⟨b, 0, none⟩ : Addr).add j) = some u := fun j u hj => by
    have e2 : (⟨b, 0, none⟩ : Addr).add j = ⟨b, 0 + j, none⟩ := by unfold Addr.add; split <;> simp_all
    rw [e2, Nat.zero_add]
    exact hb j u hj
  obtain ⟨v', w', hrun, h3, h4, _, h5⟩ := run_append_own_at (P := Try.prog) w 0 81 81 86 i0 (.agg #[.int .u8 0, .int .i64 0, .slice none 0 0, .string ⟨#[]⟩, .bool false, .int .i64 0, .bool false]) 7 80 Try.underlying81 hi hz0 hz1 hz2 rfl (by decide) (.slice (some ⟨q, 0, none⟩) T.length c) T.length _ hown ⟨b, 0, none⟩ 1 1 (tgC x) (by simp [tgC]) hcell
    (fun u hu => by unfold tgC at hu; simp at hu; rcases hu with rfl | rfl | rfl | rfl | rfl | rfl | rfl <;> rfl) (by unfold maxLen; omega) (by omega) (Nat.zero_le _)
  have hrq : r ≠ q := fun e => by have := h.rg; rw [e, h.rq] at this; cases this
  have ho : Off (fun j => j = q) w w' := (Off.of_grown h4).mono fun k _ e => by simp [Value.ownBlock] at e; exact e.symm
  rcases h3.2 with ⟨e, e0⟩ | ⟨q', c', cur', rfl, _, hg, k1, k2, k3, k4⟩
  · omega
  · have hbk' : Blk w' q' 86 cur' := hg
    have hrow' : RowG w' q' c' (T ++ [x]) := ⟨⟨cur', hbk', by rw [k3], by rw [List.length_append, List.length_singleton, flatG_app, k4]; simp [flatG]⟩, by rw [List.length_append]; exact k1, k2⟩
    have hq' : q' = q ∨ q' = w.heap.size := by
      rcases h5 with h5 | h5
      · left; simp [Value.ownBlock] at h5; exact h5
      · right; simp [Value.ownBlock] at h5; exact h5
    have hrq' : r ≠ q' := fun e => by
      rcases hq' with e' | e'
      · exact hrq (e.trans e')
      · have := h.head.lt; omega
    have hrl : r < w'.heap.size := Nat.lt_of_lt_of_le h.head.lt ho.size
    refine ⟨q', c', w', hrun, ho, hrl, fun R' hR1 hR2 hR3 hR4 => ?_, hq', hbk'.lt⟩
    have hh := (h.head.off ho hrq).set_ 1 (.slice (some ⟨q', 0, none⟩) (T.length + 1) c')
    have ho2 := Off.setc w' r 1 (.slice (some ⟨q', 0, none⟩) (T.length + 1) c')
    refine ⟨by rw [List.length_append, List.length_singleton]; exact hh, hrow'.same (ho2.block _ hbk'.lt fun e => hrq' e.symm), fun j y hy => ?_, (hR1 r (by rw [h.rg]; intro e; cases e)).trans h.rg, hR3, fun b hb => by have h9 := hR4 b hb; have h10 := ho2.size; omega⟩
    have hkeep : ∀ (y : Tg), WRow 0 w y.A y.o.ws.length y.c y.o.ws → (∀ p : Addr, y.A = some p → p.block ≠ q ∧ p.block ≠ r) → WRow 0 (w'.setCell ⟨r, 1, none⟩ (.slice (some ⟨q', 0, none⟩) (T.length + 1) c')) y.A y.o.ws.length y.c y.o.ws := fun y hy hn =>
      (hy.same ho.size fun p e => ho.block _ (hy.blk p e).2.2.2 (hn p e).1).same ho2.size fun p e => ho2.block _ (Nat.lt_of_lt_of_le (hy.blk p e).2.2.2 ho.size) (hn p e).2
    by_cases e : j < T.length
    · rw [List.getElem?_append_left e] at hy
      obtain ⟨q1, q2⟩ := h.words j y hy
      refine ⟨hkeep y q1 fun p e => ⟨(fun e' => by have h3 := q2 p e; rw [e', h.rq] at h3; cases h3), (fun e' => by have h3 := q2 p e; rw [e', h.rg] at h3; cases h3)⟩, fun p e => (hR1 _ (by rw [q2 p e]; intro e; cases e)).trans (q2 p e)⟩
    · have ej : j = T.length := by
        have := (List.getElem?_eq_some_iff.1 hy).1
        rw [List.length_append, List.length_singleton] at this
        omega
      subst ej
      rw [List.getElem?_append_right (Nat.le_refl _), Nat.sub_self] at hy
      simp at hy
      subst hy
      refine ⟨hkeep x hr fun p e => ⟨(fun e' => by have h3 := hA p e; rw [e', h.rq] at h3; cases h3), (fun e' => by have h3 := hA p e; rw [e', h.rg] at h3; cases h3)⟩, hR2⟩
end
end Go.Proofs.Ytclkkfffecmjnaa
namespace Go.Proofs.Ytclkkfffecmjnaa
open Go.RowKit
set_option linter.unusedVariables false
set_option linter.unusedSimpArgs false
attribute [local go_sem] Oper.semAt_some
theorem rsize_any (o : Ob) (A : Option Addr) (c : Nat) (w : World) (ho : Hp.small o) : Calls Try.prog 58 #[.agg #[.int .u8 (o.k : Int), .int .i64 o.tag, .slice A o.ws.length c, .string (str o.t)]] w fun e w' => e = .returned (.int .i64 (Hp.sizeO o : Int)) ∧ Below w.heap.size w w' := by
  obtain ⟨k, tag, ws, t⟩ := o
  obtain ⟨h1, h2, h3⟩ := ho
  dsimp only at h1 h2 h3 ⊢
  have hb := (Below.refl w.heap.size w).alloc (Nat.le_refl _) (.cells #[.int .u8 (k : Int), .int .i64 tag, .slice A ws.length c, .string (str t)] 35)
  have HB := Lib.hid hb
  have hts := str_size t
  have hsz : Hp.sizeO ⟨k, tag, ws, t⟩ = if k = 8 then 1 else 1 + ws.length + (t.length + 7) / 8 := rfl
  rw [hsz]
  generalize ws.length = n at *
  generalize t.length = m at *
  clear hb hsz
  by_cases e : k = 8
  · subst e
    rw [if_pos rfl]
    go_enter Try.func58, Try.ntmps58
    go_wp2_with fail
    go_ret
    exact ⟨rfl, HB.out⟩
  · have hk : ((k : Int) == 8) = false := by simp; omega
    have hq : ((m : Int) + 7).tdiv 8 = (((m + 7) / 8 : Nat) : Int) := by rw [Int.tdiv_eq_ediv_of_nonneg (by omega)]; omega
    rw [if_neg e]
    obtain ⟨q, hqq⟩ : ∃ q, (m + 7) / 8 = q := ⟨_, rfl⟩
    rw [hqq] at hq ⊢
    have hqb : q ≤ 100000 := by omega
    clear hqq e
    go_enter Try.func58, Try.ntmps58
    go_wp2_with fail
    go_ret
    exact ⟨by go_num, HB.out⟩
theorem rnew_no (n : Int) (w : World) (h : n < 1 ∨ 16777216 < n) : Calls Try.prog 14 #[.int .i64 n] w fun e w' => e = .returned (.tuple #[.pointer none, .int .i64 1]) ∧ w = w' := by
  by_cases h1 : n < 1
  · go_enter Try.func14, Try.ntmps14
    go_wp2_with fail
    go_ret2
    exact ⟨rfl, rfl⟩
  · have h2 : 16777216 < n := by omega
    have h3 : ¬ n < 1 := h1
    have h4 : 1 ≤ n := by omega
    clear h
    go_enter Try.func14, Try.ntmps14
    go_wp2_with fail
    go_ret2
    exact ⟨rfl, rfl⟩
theorem Try.infoT : (Try.prog.info? 86).map (fun i => (i.zero, i.size, i.bytes)) = some (some (.agg #[.int .u8 0, .int .i64 0, .slice none 0 0, .string (str []), .bool false, .int .i64 0, .bool false]), 7, 80) := by kernel_rfl
theorem run_mkt (w : World) :
    (Instr.makeSlice 81 (.int .i64 1) (.int .i64 1)).run Try.prog w = .ok (.slice (some ⟨w.heap.size, 0, none⟩) 1 1) (w.alloc (.cells (tgC noTg).toArray 86)) := by
  obtain ⟨i0, hi, hz0, hz1, hz2⟩ := info_parts Try.infoT
  have h := run_make (P := Try.prog) w 81 86 i0 _ Try.underlying81 hi hz0 .i64 .i64 1 1 (by omega) (by omega) (by rw [hz2]; omega) (by omega)
  have e2 : Int.toNat 1 * i0.size = 7 := by rw [hz1]; rfl
  have e3 : madeCells (Value.agg #[.int .u8 0, .int .i64 0, .slice none 0 0, .string (str []), .bool false, .int .i64 0, .bool false]).cells 7 = (tgC noTg).toArray := by kernel_rfl
  rw [e2, e3] at h
  exact h
set_option maxHeartbeats 1000000 in
theorem rnew_ok (l : Nat) (w : World) (h : 1 ≤ l ∧ l ≤ 16777216) :
    Calls Try.prog 14 #[.int .i64 (l : Int)] w fun e w' => ∃ r R, e = .returned (.tuple #[.pointer (some ⟨r, 0, none⟩), .int .i64 0]) ∧ RX w' r R (newH l) ∧ (∀ b, R b ≠ .no → w.heap.size ≤ b) ∧ Below w.heap.size w w' := by
  have hmm := run_mkt w
  have hf : Below w.heap.size w ((w.alloc (.cells (tgC noTg).toArray 86)).alloc (.cells #[.int .i64 (l : Int), .slice (some ⟨w.heap.size, 0, none⟩) 1 1] 83)) :=
    ((Below.refl _ w).alloc (Nat.le_refl _) _).alloc (by simp) _
  have hX : RX ((w.alloc (.cells (tgC noTg).toArray 86)).alloc (.cells #[.int .i64 (l : Int), .slice (some ⟨w.heap.size, 0, none⟩) 1 1] 83)) (w.heap.size + 1) (fun b => if b = w.heap.size then .mp 0 else if b = w.heap.size + 1 then .hd else .no) (newH l) := by
    have h1 := Blk.new w 86 (tgC noTg).toArray
    have h2 := Blk.new (w.alloc (.cells (tgC noTg).toArray 86)) 83 #[.int .i64 (l : Int), .slice (some ⟨w.heap.size, 0, none⟩) 1 1]
    rw [World.size_alloc] at h2
    refine ⟨w.heap.size, 1, [noTg], ⟨h2, ⟨⟨_, h1.alloc _, rfl, rfl⟩, Nat.le_refl _, by unfold maxLen; omega⟩, fun k x hx => ?_, ?_, ?_, fun b hb => ?_⟩, ⟨rfl, fun k x hx => ?_⟩⟩
    · rw [List.getElem?_singleton] at hx
      split at hx
      · cases hx
        exact ⟨WRow.nil _ _, fun p e => by cases e⟩
      · cases hx
    · rw [if_neg (by omega), if_pos rfl]
    · rw [if_pos rfl]
    · simp only [World.size_alloc]
      by_cases c : b < w.heap.size + 1 + 1
      · exact c
      · exfalso
        apply hb
        rw [if_neg (by omega), if_neg (by omega)]
    · rw [List.getElem?_singleton] at hx
      split at hx
      · cases hx
        exact ⟨rfl, rfl, rfl, rfl⟩
      · cases hx
  have HX := Lib.hid hX
  have HF := Lib.hid hf
  obtain ⟨h1, h2⟩ := h
  have d1 : decide ((l : Int) < 1) = false := by simp; omega
  have d2 : decide ((l : Int) > 16777216) = false := by simp; omega
  clear hf hX
  go_enter Try.func14, Try.ntmps14
  go_wp2_with fail
  go_ret2
  refine ⟨_, _, rfl, HX.out, fun b hb => ?_, HF.out⟩
  by_cases c : w.heap.size ≤ b
  · exact c
  · exfalso
    apply hb
    rw [if_neg (by omega), if_neg (by omega)]
section
variable {w : World} {r q c lim t : Nat} {R : Nat → Lab} {T : List Tg} {H : HS}
set_option maxHeartbeats 1000000 in
theorem rhas_any (h : RM w r q c R lim T) (hs : Says H T) (hok : H.Ok t) (k : Int) :
    Calls Try.prog 69 #[.pointer (some ⟨r, 0, none⟩), .int .i64 k] w fun e w' => e = .returned (.bool (H.obj k).isSome) ∧ w = w' := by
  obtain ⟨c0, c1, cf⟩ := h.told
  obtain ⟨b, hb⟩ : ∃ b, (H.obj k).isSome = b := ⟨_, rfl⟩
  rw [hb]
  have hlen := hs.len
  have HI := Lib.hid (And.intro h (And.intro hs (And.intro hok hb)))
  by_cases hk0 : k < 0
  · have e : b = false := by rw [← HI.out.2.2.2, obj_above hok (.inr (by omega))]; rfl
    subst e
    have d1 : decide (k ≥ 0) = false := by simp; omega
    clear h hs hok hb hlen
    generalize T.length = n at *
    go_enter Try.func69, Try.ntmps69
    go_wp2_with fail
    go_ret
    exact ⟨rfl, rfl⟩
  · obtain ⟨kn, rfl⟩ : ∃ kn : Nat, k = kn := ⟨k.toNat, by omega⟩
    have d1 : decide ((kn : Int) ≥ 0) = true := by simp
    by_cases hk1 : T.length ≤ kn
    · have e : b = false := by rw [← HI.out.2.2.2, obj_nat hok (by omega)]; rfl
      subst e
      have d2 : decide ((kn : Int) < (T.length : Int)) = false := by simp; omega
      clear h hs hok hb hlen
      generalize T.length = n at *
      go_enter Try.func69, Try.ntmps69
      go_wp2_with fail
      go_ret
      exact ⟨rfl, rfl⟩
    · obtain ⟨x, hx⟩ : ∃ x, T[kn]? = some x := ⟨_, List.getElem?_eq_getElem (by omega)⟩
      obtain ⟨_, _, _, _, q4, _⟩ := h.row.told hx
      rw [(hs.at_ kn x hx).2.1, hb] at q4
      have d2 : decide ((kn : Int) < (T.length : Int)) = true := by simp; omega
      have hkn : kn < T.length := by omega
      clear h hs hok hb hlen hx hk1
      generalize T.length = n at *
      go_enter Try.func69, Try.ntmps69
      go_wp2_with fail
      go_ret
      exact ⟨rfl, rfl⟩

theorem low_zero (H : HS) : lowL H 0 = [] := List.filter_eq_nil_iff.2 fun x hx => by simp
theorem tsmall {x : Tg} (hs : Says H T) (hok : H.Ok t) {k : Nat} (hx : T[k]? = some x) : Hp.small x.o := by
  rw [(hs.at_ k x hx).1]
  unfold getO
  cases ho : H.obj (k : Int) with
  | none => exact ⟨Nat.zero_le _, Nat.zero_le _, by show (0 : Nat) < 256; omega⟩
  | some y => exact (hok.inn y (HS.obj_some ho).1).2.2.1
theorem total_bound {t : Nat} (hok : H.Ok t) (k : Nat) : Hp.total (lowL H k) ≤ 16777216 := by
  have := total_low H k
  have := hok.sum
  have := hok.room
  omega
set_option maxRecDepth 20000 in
set_option maxHeartbeats 2000000 in
theorem rused_any (h : RM w r q c R lim T) (hs : Says H T) (hok : H.Ok t) (hcn : H.count ≤ 100000) :
    Calls Try.prog 19 #[.pointer (some ⟨r, 0, none⟩)] w fun e w' => e = .returned (.int .i64 (H.used : Int)) ∧ Below w.heap.size w w' := by
  have hlen := hs.len
  obtain ⟨n, hn⟩ : ∃ n, T.length = n := ⟨_, rfl⟩
  rw [hn] at hlen
  have HI := Lib.hid (And.intro h (And.intro hs (And.intro hok hn)))
  have HL := Lib.hid hlen
  have hnb : n ≤ 100001 := by omega
  clear h hs hok hn hlen hcn
  go_enter Try.func19, Try.ntmps19
  go_wp2_with fail
  go_loopw [3, 4] (fun sv iv wr => ∃ (i : Nat), i ≤ n ∧ iv = .int .i64 (i : Int) ∧ sv = .int .i64 ((Hp.total (lowL H i) : Nat) : Int) ∧ Hid (Below w.heap.size w wr)) (fun _ iv _ => n - (intOf iv).toNat)
  case atStart => exact ⟨0, Nat.zero_le _, rfl, by rw [low_zero]; rfl, Lib.hid (Below.refl _ _)⟩
  case round =>
    obtain ⟨i, hi, rfl, rfl, hb⟩ := hrel
    obtain ⟨h, hs, hok, hn⟩ := HI.out
    have h1 := h.below hb.out
    obtain ⟨c0, c1, cf⟩ := h1.told
    rw [hn] at c1
    by_cases hlt : i < n
    · have hd : decide ((i : Int) < (n : Int)) = true := by simpa using hlt
      obtain ⟨x, hx⟩ : ∃ x, T[i]? = some x := ⟨_, List.getElem?_eq_getElem (by omega)⟩
      obtain ⟨q0, q1, q2, q3, q4, _⟩ := h1.row.told hx
      obtain ⟨s1, s2, _⟩ := hs.at_ i x hx
      cases hob : H.obj (i : Int) with
      | none =>
        rw [hob] at s2
        rw [s2] at q4
        have HN := Lib.hid ((low_step hok i).1 hob)
        clear h hs hok hn h1 hx s1 s2 hob q0 q1 q2 q3
        go_wp2_with fail
        go_roundw
        case rel => exact ⟨i + 1, by omega, by go_num, by rw [HN.out], hb⟩
        case measure => simp [intOf]; omega
      | some y =>
        rw [hob] at s2
        rw [s2] at q4
        have HZ := Lib.hid (rsize_any x.o x.A x.c wr (tsmall hs hok hx))
        have htot := ((low_step hok i).2 y hob).1
        have e : x.o = y.o := by rw [s1, getO_of hob]
        rw [← e] at htot
        have htb := total_bound hok (i + 1)
        have hsb := Hp.sizeO_pos x.o
        obtain ⟨sz, hsz⟩ : ∃ s, Hp.sizeO x.o = s := ⟨_, rfl⟩
        obtain ⟨tt, htt⟩ : ∃ s, Hp.total (lowL H i) = s := ⟨_, rfl⟩
        rw [hsz] at HZ htot hsb
        rw [htt] at htot ⊢
        rw [htot] at htb
        have HT := Lib.hid htot
        clear h hs hok hn h1 hx s1 s2 hob htot hsz e htt
        go_wp2_with fail
        refine HZ.out.mono ?_
        rintro e w2 ⟨rfl, hb2⟩
        have HB2 := Lib.hid (hb.out.trans (hb2.mono hb.out.size))
        clear hb2 HZ hb q0 q1 q2 q3 q4 c0 c1 cf
        go_wp2_with fail
        go_roundw
        case rel => exact ⟨i + 1, by omega, by go_num, by rw [HT.out]; go_num, HB2⟩
        case measure => simp [intOf]; omega
    · obtain rfl : n = i := by omega
      have hd : decide ((n : Int) < (n : Int)) = false := by simp
      have HT : Hid (Hp.total (lowL H n) = H.used) := Lib.hid (by rw [HL.out, low_all hok, hok.sum])
      rw [HT.out]
      clear h hs hok hn h1
      go_wp2_with fail
      go_ret
      exact ⟨rfl, hb.out⟩
set_option maxRecDepth 20000 in
set_option maxHeartbeats 2000000 in
theorem rcount_any (h : RM w r q c R lim T) (hs : Says H T) (hok : H.Ok t) (hcn : H.count ≤ 100000) (hll : H.L.length ≤ 100000) :
    Calls Try.prog 21 #[.pointer (some ⟨r, 0, none⟩)] w fun e w' => e = .returned (.int .i64 (H.L.length : Int)) ∧ w = w' := by
  have hlen := hs.len
  obtain ⟨n, hn⟩ : ∃ n, T.length = n := ⟨_, rfl⟩
  rw [hn] at hlen
  obtain ⟨c0, c1, cf⟩ := h.told
  rw [hn] at c1
  have HI := Lib.hid (And.intro h (And.intro hs (And.intro hok hn)))
  have HL := Lib.hid hlen
  have hnb : n ≤ 100001 := by omega
  have HLL : Hid (∀ k, (lowL H k).length ≤ 100000) := Lib.hid fun k => Nat.le_trans (List.length_filter_le _ _) hll
  clear h hs hok hn hlen hcn hll
  go_enter Try.func21, Try.ntmps21
  go_wp2_with fail
  go_loopw [3, 4] (fun sv iv wr => ∃ (i : Nat), i ≤ n ∧ iv = .int .i64 (i : Int) ∧ sv = .int .i64 (((lowL H i).length : Nat) : Int) ∧ wr = w) (fun _ iv _ => n - (intOf iv).toNat)
  case atStart => exact ⟨0, Nat.zero_le _, rfl, by rw [low_zero]; rfl, rfl⟩
  case round =>
    obtain ⟨i, hi, rfl, rfl, rfl⟩ := hrel
    obtain ⟨h, hs, hok, hn⟩ := HI.out
    by_cases hlt : i < n
    · have hd : decide ((i : Int) < (n : Int)) = true := by simpa using hlt
      obtain ⟨x, hx⟩ : ∃ x, T[i]? = some x := ⟨_, List.getElem?_eq_getElem (by omega)⟩
      obtain ⟨q0, q1, q2, q3, q4, _⟩ := h.row.told hx
      obtain ⟨s1, s2, _⟩ := hs.at_ i x hx
      cases hob : H.obj (i : Int) with
      | none =>
        rw [hob] at s2
        rw [s2] at q4
        have HN := Lib.hid ((low_step hok i).1 hob)
        clear h hs hok hn hx s1 s2 hob q0 q1 q2 q3
        go_wp2_with fail
        go_roundw
        case rel => exact ⟨i + 1, by omega, by go_num, by rw [HN.out], by trivial⟩
        case measure => simp [intOf]; omega
      | some y =>
        rw [hob] at s2
        rw [s2] at q4
        have htot := ((low_step hok i).2 y hob).2
        have htb := HLL.out (i + 1)
        obtain ⟨tt, htt⟩ : ∃ s, (lowL H i).length = s := ⟨_, rfl⟩
        rw [htt] at htot ⊢
        rw [htot] at htb
        have HT := Lib.hid htot
        clear h hs hok hn hx s1 s2 hob htot htt q0 q1 q2 q3
        go_wp2_with fail
        go_roundw
        case rel => exact ⟨i + 1, by omega, by go_num, by rw [HT.out]; go_num, by trivial⟩
        case measure => simp [intOf]; omega
    · obtain rfl : n = i := by omega
      have hd : decide ((n : Int) < (n : Int)) = false := by simp
      have HT : Hid ((lowL H n).length = H.L.length) := Lib.hid (by rw [HL.out, low_all hok])
      rw [HT.out]
      clear h hs hok hn
      go_wp2_with fail
      go_ret
      exact ⟨rfl, rfl⟩
theorem of_is {t : Nat} (hok : H.Ok t) {k : Nat} {o : Int} (h0 : (H.obj (k : Int)).isSome = true) (h1 : (((H.oidOf (k : Int)).getD 0 : Nat) : Int) = o) (h2 : 0 < o) : H.ofOid o = some k := by
  cases hx : H.oidOf (k : Int) with
  | none => rw [hx] at h1; have h1 : ((0 : Nat) : Int) = o := h1; omega
  | some v =>
    rw [hx] at h1
    have h1 : (v : Int) = o := h1
    rw [← h1]
    exact ofOid_of hok hx
theorem of_isnt {t : Nat} (hok : H.Ok t) {o : Int} (h : ∀ k : Nat, k ≤ H.count → ¬ ((H.obj (k : Int)).isSome = true ∧ (((H.oidOf (k : Int)).getD 0 : Nat) : Int) = o ∧ 0 < o)) : H.ofOid o = none := by
  cases hx : H.ofOid o with
  | none => rfl
  | some j =>
    exfalso
    obtain ⟨p, hp, e1, e2⟩ := HS.of_some hx
    obtain ⟨⟨x, hxl, e3⟩, h4, _⟩ := hok.tied p hp
    have hob : H.obj (j : Int) = some x := by
      have e : x.h = j := by omega
      rw [← e]; exact HS.obj_of hok hxl
    have hoid : H.oidOf (j : Int) = some p.2 := by
      cases hy : H.oidOf (j : Int) with
      | none => exact absurd (by omega) (HS.oid_none hy p hp)
      | some v =>
        have h5 := ofOid_of hok hy
        obtain ⟨p', hp', e5, e6⟩ := HS.oid_some hy
        by_cases e : p = p'
        · rw [e]; rw [e6]
        · exfalso
          have := pw_ne hok.ties p hp p' hp' e
          exact this.1 (by omega)
    have := hok.inn x hxl
    refine h j (by omega) ⟨by rw [hob]; rfl, by rw [hoid]; exact e1, by omega⟩
set_option maxRecDepth 20000 in
set_option maxHeartbeats 2000000 in
theorem rof_any (h : RM w r q c R lim T) (hs : Says H T) (hok : H.Ok t) (hcn : H.count ≤ 100000) (o : Int) :
    Calls Try.prog 54 #[.pointer (some ⟨r, 0, none⟩), .int .i64 o] w fun e w' => e = .returned (.tuple #[.int .i64 (((H.ofOid o).getD 0 : Nat) : Int), .bool (H.ofOid o).isSome]) ∧ w = w' := by
  have hlen := hs.len
  obtain ⟨n, hn⟩ : ∃ n, T.length = n := ⟨_, rfl⟩
  rw [hn] at hlen
  obtain ⟨c0, c1, cf⟩ := h.told
  rw [hn] at c1
  have HI := Lib.hid (And.intro h (And.intro hs (And.intro hok hn)))
  have HL := Lib.hid hlen
  have hnb : n ≤ 100001 := by omega
  clear h hs hok hn hlen hcn
  go_enter Try.func54, Try.ntmps54
  go_wp2_with fail
  go_loopw [6] (fun iv wr => ∃ (i : Nat), i ≤ n ∧ iv = .int .i64 (i : Int) ∧ wr = w ∧ Hid (∀ k : Nat, k < i → ¬ ((H.obj (k : Int)).isSome = true ∧ (((H.oidOf (k : Int)).getD 0 : Nat) : Int) = o ∧ 0 < o))) (fun iv _ => n - (intOf iv).toNat)
  case atStart => exact ⟨0, Nat.zero_le _, rfl, rfl, Lib.hid fun k hk => absurd hk (Nat.not_lt_zero k)⟩
  case round =>
    obtain ⟨i, hi, rfl, rfl, hJ⟩ := hrel
    obtain ⟨h, hs, hok, hn⟩ := HI.out
    by_cases hlt : i < n
    · have hd : decide ((i : Int) < (n : Int)) = true := by simpa using hlt
      obtain ⟨x, hx⟩ : ∃ x, T[i]? = some x := ⟨_, List.getElem?_eq_getElem (by omega)⟩
      obtain ⟨_, _, _, _, q4, q5, _⟩ := h.row.told hx
      obtain ⟨_, s2, s3, _⟩ := hs.at_ i x hx
      rw [s2] at q4
      rw [s3] at q5
      obtain ⟨b, hb⟩ : ∃ b, (H.obj (i : Int)).isSome = b := ⟨_, rfl⟩
      obtain ⟨v, hv⟩ : ∃ v, (((H.oidOf (i : Int)).getD 0 : Nat) : Int) = v := ⟨_, rfl⟩
      rw [hb] at q4
      rw [hv] at q5
      obtain ⟨ve, hve⟩ : ∃ ve, (v == o) = ve := ⟨_, rfl⟩
      obtain ⟨og, hog⟩ : ∃ og, decide (o > 0) = og := ⟨_, rfl⟩
      have HN : Hid ((b && ve && og) = false → ∀ k : Nat, k < i + 1 → ¬ ((H.obj (k : Int)).isSome = true ∧ (((H.oidOf (k : Int)).getD 0 : Nat) : Int) = o ∧ 0 < o)) := Lib.hid fun hf k hk => by
        by_cases e : k = i
        · subst e
          rw [hb, hv]
          rintro ⟨e1, e2, e3⟩
          have e4 : ve = true := by rw [← hve, e2]; simp
          have e5 : og = true := by rw [← hog]; simpa using e3
          rw [e1, e4, e5] at hf
          cases hf
        · exact hJ.out k (by omega)
      have HY : Hid (b = true → ve = true → og = true → H.ofOid o = some i) := Lib.hid fun e1 e2 e3 => of_is hok (by rw [hb]; exact e1) (by rw [hv]; rw [← hve] at e2; simpa using e2) (by rw [← hog] at e3; simpa using e3)
      clear h hs hok hn hx s2 s3 hb hv
      cases b with
      | false =>
        replace HN := Lib.hid (HN.out (by simp))
        clear HY hve hog
        go_wp2_with fail
        go_roundw
        case rel => exact ⟨i + 1, by omega, by go_num, by trivial, HN⟩
        case measure => simp [intOf]; omega
      | true =>
        cases ve with
        | false =>
          replace HN := Lib.hid (HN.out (by simp))
          clear HY hog
          go_wp2_with fail
          go_roundw
          case rel => exact ⟨i + 1, by omega, by go_num, by trivial, HN⟩
          case measure => simp [intOf]; omega
        | true =>
          cases og with
          | false =>
            replace HN := Lib.hid (HN.out (by simp))
            clear HY
            go_wp2_with fail
            go_roundw
            case rel => exact ⟨i + 1, by omega, by go_num, by trivial, HN⟩
            case measure => simp [intOf]; omega
          | true =>
            replace HY := Lib.hid (HY.out rfl rfl rfl)
            clear HN
            go_wp2_with fail
            go_ret2
            exact ⟨by rw [HY.out]; rfl, rfl⟩
    · obtain rfl : n = i := by omega
      have hd : decide ((n : Int) < (n : Int)) = false := by simp
      have HT : Hid (H.ofOid o = none) := Lib.hid (of_isnt hok fun k hk => hJ.out k (by rw [HL.out]; omega))
      clear h hs hok hn
      go_wp2_with fail
      go_ret2
      exact ⟨by rw [HT.out]; rfl, rfl⟩
end
end Go.Proofs.Ytclkkfffecmjnaa
namespace Go.Proofs.Ytclkkfffecmjnaa
open Go.RowKit
set_option linter.unusedVariables false
set_option linter.unusedSimpArgs false
attribute [local go_sem] Oper.semAt_some
section
variable {w w' : World} {r t : Nat} {R : Nat → Lab} {H : HS}
theorem Stp.of_rm {q c : Nat} {T' : List Tg} {H' : HS} (h : RM w' r q c R H'.limit T') (hs : Says H' T') (ho : Off (fun b => R b ≠ .no) w w') : Stp w w' r R H' := ⟨R, ⟨q, c, T', h, hs⟩, ho, fun b hb => .inl hb⟩
theorem Stp.id (h : RX w r R H) : Stp w w r R H := Stp.of_below h (Below.refl _ _)
/-- Where a handle's thing lies. -/
theorem RX.at_ (h : RX w r R H) (hok : H.Ok t) {k : Int} {x : Ho} (hx : H.obj k = some x) :
    ∃ (kn n q c : Nat) (T : List Tg) (y : Tg), k = kn ∧ x.h = kn ∧ kn < n ∧ n = H.count + 1 ∧ T.length = n ∧ RM w r q c R H.limit T ∧ Says H T ∧ T[kn]? = some y ∧ y.o = x.o ∧ y.is = true ∧ y.oid = (H.oidOf (kn : Int)).getD 0 ∧ y.dirty = x.dirty := by
  obtain ⟨q, c, T, hm, hs⟩ := h
  obtain ⟨hxl, hxk⟩ := HS.obj_some hx
  have hxc := (hok.inn x hxl).2.1
  obtain ⟨y, hy⟩ := hs.get (k := x.h) (by omega)
  obtain ⟨s1, s2, s3, s4⟩ := hs.at_ x.h y hy
  rw [hxk, getO_of hx] at s1
  rw [hxk, hx] at s2
  rw [hxk, isD_of hx] at s4
  exact ⟨x.h, T.length, q, c, T, y, hxk.symm, rfl, by rw [hs.len]; omega, hs.len, rfl, hm, hs, hy, s1, s2, s3, s4⟩
theorem rhas_rx (h : RX w r R H) (hok : H.Ok t) (k : Int) : Calls Try.prog 69 #[.pointer (some ⟨r, 0, none⟩), .int .i64 k] w fun e w' => e = .returned (.bool (H.obj k).isSome) ∧ w = w' := by
  obtain ⟨q, c, T, hm, hs⟩ := h
  exact rhas_any hm hs hok k
theorem rof_rx (h : RX w r R H) (hok : H.Ok t) (hcn : H.count ≤ 100000) (o : Int) : Calls Try.prog 54 #[.pointer (some ⟨r, 0, none⟩), .int .i64 o] w fun e w' => e = .returned (.tuple #[.int .i64 (((H.ofOid o).getD 0 : Nat) : Int), .bool (H.ofOid o).isSome]) ∧ w = w' := by
  obtain ⟨q, c, T, hm, hs⟩ := h
  exact rof_any hm hs hok hcn o
theorem rused_rx (h : RX w r R H) (hok : H.Ok t) (hcn : H.count ≤ 100000) : Calls Try.prog 19 #[.pointer (some ⟨r, 0, none⟩)] w fun e w' => e = .returned (.int .i64 (H.used : Int)) ∧ Below w.heap.size w w' := by
  obtain ⟨q, c, T, hm, hs⟩ := h
  exact rused_any hm hs hok hcn
theorem rcount_rx (h : RX w r R H) (hok : H.Ok t) (hcn : H.count ≤ 100000) (hll : H.L.length ≤ 100000) : Calls Try.prog 21 #[.pointer (some ⟨r, 0, none⟩)] w fun e w' => e = .returned (.int .i64 (H.L.length : Int)) ∧ w = w' := by
  obtain ⟨q, c, T, hm, hs⟩ := h
  exact rcount_any hm hs hok hcn hll
set_option maxRecDepth 20000 in
set_option maxHeartbeats 2000000 in
theorem rget_any (h : RX w r R H) (hok : H.Ok t) (k : Int) :
    Calls Try.prog 48 #[.pointer (some ⟨r, 0, none⟩), .int .i64 k] w fun e w' => ∃ v A c, e = .returned (.tuple #[v, .bool (H.obj k).isSome]) ∧ ObV (w.heap.size + 1) w' v (getO H k) A c ∧ Below w.heap.size w w' := by
  obtain ⟨w0, hw0⟩ : ∃ w0, w.alloc (.cells #[.int .u8 0, .int .i64 0, .slice none 0 0, .string ⟨#[]⟩] 35) = w0 := ⟨_, rfl⟩
  have hb : Below w.heap.size w w0 := by rw [← hw0]; exact (Below.refl _ _).alloc (Nat.le_refl _) _
  have hR : Blk w0 w.heap.size 35 #[.int .u8 0, .int .i64 0, .slice none 0 0, .string ⟨#[]⟩] := by rw [← hw0]; exact Blk.new _ _ _
  have hsz : w0.heap.size = w.heap.size + 1 := by rw [← hw0, World.size_alloc]
  have hX := h.below hb
  have H1 := Lib.hid (rhas_rx hX hok k)
  have r0 := hR.cell 0
  have r1 := hR.cell 1
  have r2 := hR.cell 2
  have r3 := hR.cell 3
  have rf := hR.frozen
  simp only [List.getElem?_toArray, List.getElem?_cons_zero, List.getElem?_cons_succ] at r0 r1 r2 r3
  cases hx : H.obj k with
  | none =>
    rw [hx, Option.isSome_none] at H1
    rw [getO_no hx]
    have HR := Lib.hid (And.intro hb hR)
    clear h hb hR hX hsz
    go_enter Try.func48, Try.ntmps48
    go_wp2_with fail
    refine H1.out.mono ?_
    rintro e w1 ⟨rfl, rfl⟩
    clear hw0 H1
    go_wp2_with fail
    have HB6 := (((HR.out.2.set_ 0 (.int .u8 0)).set_ 1 (.int .i64 0)).set_ 2 (.slice none 0 0)).set_ 3 (.string ⟨#[]⟩)
    refine bodyPost_ret (results_cell_row2 rfl _ _ w.heap.size 35 _ (0, 0) _ rfl HB6 Try.underlying35 rfl (by kernel_rfl)) rfl ?_
    exact ⟨_, none, 0, rfl, ⟨rfl, WRow.nil _ _⟩, (((HR.out.1.setCell (p := ⟨w.heap.size, 0, none⟩) (Nat.le_refl _) _).setCell (p := ⟨w.heap.size, 1, none⟩) (Nat.le_refl _) _).setCell (p := ⟨w.heap.size, 2, none⟩) (Nat.le_refl _) _).setCell (p := ⟨w.heap.size, 3, none⟩) (Nat.le_refl _) _⟩
  | some x =>
    rw [hx, Option.isSome_some] at H1
    rw [getO_of hx]
    obtain ⟨kn, n, q, c, T, y, rfl, hxk, hlt, hnc, hTn, hm, hs, hy, s1, s2, s3, s4⟩ := hX.at_ hok hx
    obtain ⟨c0, c1, cf⟩ := hm.told
    obtain ⟨q0, q1, q2, q3, _⟩ := hm.row.told hy
    rw [hTn] at c1
    have hsm := tsmall hs hok hy
    have HO := copyobj_any y.o y.A y.c w0 hsm.1 (hm.words kn y hy).1.words
    rw [s1] at HO q0 q1 q2 q3
    replace HO := Lib.hid HO
    have HRR := Lib.hid (And.intro hb (And.intro hR hsz))
    clear h hb hR hX hsz hm hs hy s1 s2 s3 s4 hsm hx hxk hnc hTn
    go_enter Try.func48, Try.ntmps48
    go_wp2_with fail
    refine H1.out.mono ?_
    rintro e w1 ⟨rfl, rfl⟩
    clear hw0 H1
    go_wp2_with fail
    refine HO.out.mono ?_
    rintro e w2 ⟨v, A', c', rfl, hv, hb2⟩
    obtain ⟨rfl, hrow⟩ := hv
    have hR2 := HRR.out.2.1.below hb2 HRR.out.2.1.lt
    have t0 := hR2.cell 0
    have t1 := hR2.cell 1
    have t2 := hR2.cell 2
    have t3 := hR2.cell 3
    have tf := hR2.frozen
    simp only [List.getElem?_toArray, List.getElem?_cons_zero, List.getElem?_cons_succ] at t0 t1 t2 t3
    have HV := Lib.hid (And.intro hrow (And.intro hb2 hR2))
    clear hrow hb2 hR2 HO q0 q1 q2 q3 r0 r1 r2 r3 rf c0 c1 cf
    go_wp2_with fail
    have HB6 := (((HV.out.2.2.set_ 0 (.int .u8 (x.o.k : Int))).set_ 1 (.int .i64 x.o.tag)).set_ 2 (.slice A' x.o.ws.length c')).set_ 3 (.string (str x.o.t))
    refine bodyPost_ret (results_cell_row2 rfl _ _ w.heap.size 35 _ (0, 0) _ rfl HB6 Try.underlying35 rfl (by kernel_rfl)) rfl ?_
    have ho : Off (fun k => k = w.heap.size) w2 ((((w2.setCell ⟨w.heap.size, 0, none⟩ (.int .u8 (x.o.k : Int))).setCell ⟨w.heap.size, 1, none⟩ (.int .i64 x.o.tag)).setCell ⟨w.heap.size, 2, none⟩ (.slice A' x.o.ws.length c')).setCell ⟨w.heap.size, 3, none⟩ (.string (str x.o.t))) :=
      offS (offS (offS (Off.setc _ _ _ _) _ _ _ rfl) _ _ _ rfl) _ _ _ rfl
    obtain ⟨hrow, hb2, _⟩ := HV.out
    obtain ⟨hb, _, hsz⟩ := HRR.out
    have hb02 := hb.trans (hb2.mono hb.size)
    refine ⟨_, A', c', rfl, ⟨rfl, (hrow.same ho.size fun p e => ho.block _ (hrow.blk p e).2.2.2 fun e' => ?_).mono (by omega)⟩, hb02.trans (ho.below hb02.size fun k e => by have e' : k = w.heap.size := e; omega)⟩
    have e' : p.block = w.heap.size := e'
    have := (hrow.blk p e).2.2.1
    omega
set_option maxRecDepth 20000 in
set_option maxHeartbeats 2000000 in
theorem rword_any (h : RX w r R H) (hok : H.Ok t) (k i : Int) :
    Calls Try.prog 49 #[.pointer (some ⟨r, 0, none⟩), .int .i64 k, .int .i64 i] w fun e w' => e = .returned (.tuple #[.agg #[.int .u8 ((wordF H k i).1.k : Int), .int .i64 (wordF H k i).1.n], .bool (wordF H k i).2]) ∧ Below w.heap.size w w' := by
  obtain ⟨w0, hw0⟩ : ∃ w0, w.alloc (.cells #[.int .u8 0, .int .i64 0] 37) = w0 := ⟨_, rfl⟩
  have hb : Below w.heap.size w w0 := by rw [← hw0]; exact (Below.refl _ _).alloc (Nat.le_refl _) _
  have hR : Blk w0 w.heap.size 37 #[.int .u8 0, .int .i64 0] := by rw [← hw0]; exact Blk.new _ _ _
  have hX := h.below hb
  have H1 := Lib.hid (rhas_rx hX hok k)
  have r0 := hR.cell 0
  have r1 := hR.cell 1
  have rf := hR.frozen
  simp only [List.getElem?_toArray, List.getElem?_cons_zero, List.getElem?_cons_succ] at r0 r1
  have HR := Lib.hid (And.intro hb hR)
  unfold wordF
  cases hx : H.obj k with
  | none =>
    rw [hx, Option.isSome_none] at H1
    dsimp only
    clear h hb hR hX hx
    go_enter Try.func49, Try.ntmps49
    go_wp2_with fail
    refine H1.out.mono ?_
    rintro e w1 ⟨rfl, rfl⟩
    clear hw0 H1
    go_wp2_with fail
    have HB6 := (HR.out.2.set_ 0 (.int .u8 0)).set_ 1 (.int .i64 0)
    refine bodyPost_ret (results_cell_row2 rfl _ _ w.heap.size 37 _ (0, 0) _ rfl HB6 Try.underlying37 rfl (by kernel_rfl)) rfl ?_
    exact ⟨rfl, (HR.out.1.setCell (p := ⟨w.heap.size, 0, none⟩) (Nat.le_refl _) _).setCell (p := ⟨w.heap.size, 1, none⟩) (Nat.le_refl _) _⟩
  | some x =>
    rw [hx, Option.isSome_some] at H1
    dsimp only
    obtain ⟨kn, n, q, c, T, y, rfl, hxk, hlt, hnc, hTn, hm, hs, hy, s1, s2, s3, s4⟩ := hX.at_ hok hx
    obtain ⟨c0, c1, cf⟩ := hm.told
    obtain ⟨_, _, q2, _⟩ := hm.row.told hy
    rw [hTn] at c1
    have hrow := (hm.words kn y hy).1
    rw [s1] at q2 hrow
    have HWR := Lib.hid hrow
    obtain ⟨l, hl⟩ : ∃ l, x.o.ws.length = l := ⟨_, rfl⟩
    rw [hl] at q2
    have HL := Lib.hid hl
    clear h hb hR hX hm hs hy s1 s2 s3 s4 hx hxk hnc hTn hrow hl
    by_cases hi0 : i < 0
    · rw [if_pos hi0]
      have hd0 : decide (i < 0) = true := by simpa using hi0
      go_enter Try.func49, Try.ntmps49
      go_wp2_with fail
      refine H1.out.mono ?_
      rintro e w1 ⟨rfl, rfl⟩
      clear hw0 H1
      go_wp2_with fail
      have HB6 := (HR.out.2.set_ 0 (.int .u8 0)).set_ 1 (.int .i64 0)
      refine bodyPost_ret (results_cell_row2 rfl _ _ w.heap.size 37 _ (0, 0) _ rfl HB6 Try.underlying37 rfl (by kernel_rfl)) rfl ?_
      exact ⟨rfl, (HR.out.1.setCell (p := ⟨w.heap.size, 0, none⟩) (Nat.le_refl _) _).setCell (p := ⟨w.heap.size, 1, none⟩) (Nat.le_refl _) _⟩
    · rw [if_neg hi0]
      obtain ⟨j, rfl⟩ : ∃ j : Nat, i = j := ⟨i.toNat, by omega⟩
      rw [Int.toNat_natCast]
      have hd0 : decide ((j : Int) < 0) = false := by simp
      by_cases hj : l ≤ j
      · have hn : x.o.ws[j]? = none := List.getElem?_eq_none_iff.2 (by rw [HL.out]; exact hj)
        rw [hn]
        dsimp only
        have hd1 : decide (l ≤ j) = true := by simpa using hj
        have hd2 : decide ((j : Int) ≥ (l : Int)) = true := by simp; omega
        clear hi0 hn
        go_enter Try.func49, Try.ntmps49
        go_wp2_with fail
        refine H1.out.mono ?_
        rintro e w1 ⟨rfl, rfl⟩
        clear hw0 H1
        go_wp2_with fail
        have HB6 := (HR.out.2.set_ 0 (.int .u8 0)).set_ 1 (.int .i64 0)
        refine bodyPost_ret (results_cell_row2 rfl _ _ w.heap.size 37 _ (0, 0) _ rfl HB6 Try.underlying37 rfl (by kernel_rfl)) rfl ?_
        exact ⟨rfl, (HR.out.1.setCell (p := ⟨w.heap.size, 0, none⟩) (Nat.le_refl _) _).setCell (p := ⟨w.heap.size, 1, none⟩) (Nat.le_refl _) _⟩
      · obtain ⟨p, z, hA, hz, _, _, _, z0, z1, _⟩ := HWR.out.at_ (i := j) (by rw [HL.out]; omega)
        rw [hz]
        dsimp only
        rw [hA] at q2
        have hd1 : decide (l ≤ j) = false := by simp; omega
        have hd2 : decide ((j : Int) ≥ (l : Int)) = false := by simp; omega
        have hjl : j < l := by omega
        clear hi0 hz hA hj
        go_enter Try.func49, Try.ntmps49
        go_wp2_with fail
        refine H1.out.mono ?_
        rintro e w1 ⟨rfl, rfl⟩
        clear hw0 H1
        go_wp2_with fail
        have HB6 := (HR.out.2.set_ 0 (.int .u8 (z.k : Int))).set_ 1 (.int .i64 z.n)
        refine bodyPost_ret (results_cell_row2 rfl _ _ w.heap.size 37 _ (0, 0) _ rfl HB6 Try.underlying37 rfl (by kernel_rfl)) rfl ?_
        exact ⟨rfl, (HR.out.1.setCell (p := ⟨w.heap.size, 0, none⟩) (Nat.le_refl _) _).setCell (p := ⟨w.heap.size, 1, none⟩) (Nat.le_refl _) _⟩
set_option maxHeartbeats 1000000 in
theorem roid_any (h : RX w r R H) (hok : H.Ok t) (k : Int) :
    Calls Try.prog 53 #[.pointer (some ⟨r, 0, none⟩), .int .i64 k] w fun e w' => e = .returned (.tuple #[.int .i64 (((H.oidOf k).getD 0 : Nat) : Int), .bool (H.oidOf k).isSome]) ∧ w = w' := by
  have H1 := Lib.hid (rhas_rx h hok k)
  cases hx : H.obj k with
  | none =>
    have hno : H.oidOf k = none := by
      cases ho : H.oidOf k with
      | none => rfl
      | some v =>
        obtain ⟨p, hp, e, _⟩ := HS.oid_some ho
        obtain ⟨⟨x, hx', e2⟩, _⟩ := hok.tied p hp
        exact absurd (by omega) (HS.obj_none hx x hx')
    rw [hx, Option.isSome_none] at H1
    rw [hno, Option.isSome_none, Option.getD_none]
    clear h hno
    go_enter Try.func53, Try.ntmps53
    go_wp2_with fail
    refine H1.out.mono ?_
    rintro e w1 ⟨rfl, rfl⟩
    go_wp2_with fail
    go_ret2
    exact ⟨rfl, rfl⟩
  | some x =>
    rw [hx, Option.isSome_some] at H1
    obtain ⟨kn, n, q, c, T, y, rfl, hxk, hlt, hnc, hTn, hm, hs, hy, s1, s2, s3, s4⟩ := h.at_ hok hx
    obtain ⟨c0, c1, cf⟩ := hm.told
    obtain ⟨_, _, _, _, _, q5, _⟩ := hm.row.told hy
    rw [hTn] at c1
    rw [s3] at q5
    cases ho : H.oidOf (kn : Int) with
    | none =>
      rw [ho, Option.getD_none] at q5
      rw [Option.isSome_none, Option.getD_none]
      clear h hm hs hy s1 s2 s3 s4 hx hxk hnc hTn ho
      go_enter Try.func53, Try.ntmps53
      go_wp2_with fail
      refine H1.out.mono ?_
      rintro e w1 ⟨rfl, rfl⟩
      go_wp2_with fail
      go_ret2
      exact ⟨rfl, rfl⟩
    | some v =>
      rw [ho, Option.getD_some] at q5
      rw [Option.isSome_some, Option.getD_some]
      have hv := oid_pos hok ho
      have hd : ((v : Int) == 0) = false := by simp; omega
      clear h hm hs hy s1 s2 s3 s4 hx hxk hnc hTn ho
      go_enter Try.func53, Try.ntmps53
      go_wp2_with fail
      refine H1.out.mono ?_
      rintro e w1 ⟨rfl, rfl⟩
      go_wp2_with fail
      go_ret2
      exact ⟨rfl, rfl⟩
set_option maxHeartbeats 1000000 in
theorem rclean_any (h : RX w r R H) (hok : H.Ok t) (k : Int) :
    Calls Try.prog 56 #[.pointer (some ⟨r, 0, none⟩), .int .i64 k] w fun e w' => e = .returned (.bool (cleanF H k).2) ∧ Stp w w' r R (cleanF H k).1 := by
  have H1 := Lib.hid (rhas_rx h hok k)
  have HS0 := Lib.hid (Stp.id h)
  unfold cleanF
  cases hx : H.obj k with
  | none =>
    rw [hx, Option.isSome_none] at H1
    dsimp only
    clear h
    go_enter Try.func56, Try.ntmps56
    go_wp2_with fail
    refine H1.out.mono ?_
    rintro e w1 ⟨rfl, rfl⟩
    go_wp2_with fail
    go_ret
    exact ⟨rfl, HS0.out⟩
  | some x =>
    rw [hx, Option.isSome_some] at H1
    dsimp only
    obtain ⟨kn, n, q, c, T, y, rfl, hxk, hlt, hnc, hTn, hm, hs, hy, s1, s2, s3, s4⟩ := h.at_ hok hx
    obtain ⟨c0, c1, cf⟩ := hm.told
    obtain ⟨_, _, _, _, _, _, q6⟩ := hm.row.told hy
    have qf := hm.row.frozen
    rw [hTn] at c1
    rw [s4] at q6
    cases hd : x.dirty with
    | false =>
      rw [hd] at q6
      rw [if_neg (by simp)]
      clear h hm hs hy s1 s2 s3 s4 hx hxk hnc hTn
      go_enter Try.func56, Try.ntmps56
      go_wp2_with fail
      refine H1.out.mono ?_
      rintro e w1 ⟨rfl, rfl⟩
      go_wp2_with fail
      go_ret
      exact ⟨rfl, HS0.out⟩
    | true =>
      rw [hd] at q6
      rw [if_pos rfl]
      have hm2 := hm.put (x' := { y with dirty := false }) (j := 6) (v := .bool false) hy (by omega) rfl rfl rfl rfl
      have hs2 : Says (cleanH H x) (T.set kn { y with dirty := false }) := hs.upd (H' := cleanH H x) (x' := { y with dirty := false }) hok hx (y := { x with dirty := false }) rfl rfl rfl (fun j _ => rfl) s1 s2 s3 rfl
      have HF := Lib.hid (Stp.of_rm (w := w) (H' := cleanH H x) hm2 hs2 ((Off.setc _ _ _ _).mono fun b _ e => by rw [show b = q from e, hm.rq]; intro e; cases e))
      clear h hm hs hy s1 s2 s3 s4 hx hxk hnc hTn hm2 hs2
      go_enter Try.func56, Try.ntmps56
      go_wp2_with fail
      refine H1.out.mono ?_
      rintro e w1 ⟨rfl, rfl⟩
      go_wp2_with fail
      go_ret
      exact ⟨rfl, HF.out⟩
set_option maxHeartbeats 2000000 in
theorem runtie_any (h : RX w r R H) (hok : H.Ok t) (k : Int) :
    Calls Try.prog 52 #[.pointer (some ⟨r, 0, none⟩), .int .i64 k] w fun e w' => e = .returned (.bool (untieF H k).2) ∧ Stp w w' r R (untieF H k).1 := by
  have H1 := Lib.hid (rhas_rx h hok k)
  have HS0 := Lib.hid (Stp.id h)
  unfold untieF
  cases hx : H.obj k with
  | none =>
    rw [hx, Option.isSome_none] at H1
    dsimp only
    clear h
    go_enter Try.func52, Try.ntmps52
    go_wp2_with fail
    refine H1.out.mono ?_
    rintro e w1 ⟨rfl, rfl⟩
    go_wp2_with fail
    go_ret
    exact ⟨rfl, HS0.out⟩
  | some x =>
    rw [hx, Option.isSome_some] at H1
    dsimp only
    obtain ⟨kn, n, q, c, T, y, rfl, hxk, hlt, hnc, hTn, hm, hs, hy, s1, s2, s3, s4⟩ := h.at_ hok hx
    obtain ⟨c0, c1, cf⟩ := hm.told
    obtain ⟨q0, _, _, _, _, q5, q6⟩ := hm.row.told hy
    have qf := hm.row.frozen
    rw [hTn] at c1
    rw [s3] at q5
    rw [s1] at q0
    cases ho : H.oidOf (kn : Int) with
    | none =>
      rw [if_pos (.inr rfl)]
      rw [ho, Option.getD_none] at q5
      clear h hm hs hy s1 s2 s3 s4 hx hxk hnc hTn
      go_enter Try.func52, Try.ntmps52
      go_wp2_with fail
      refine H1.out.mono ?_
      rintro e w1 ⟨rfl, rfl⟩
      go_wp2_with fail
      go_ret
      exact ⟨rfl, HS0.out⟩
    | some v =>
      rw [ho, Option.getD_some] at q5
      have hv := oid_pos hok ho
      have hd : ((v : Int) == 0) = false := by simp; omega
      by_cases h8 : x.o.k = 8
      · rw [if_pos (.inl h8)]
        rw [h8] at q0
        clear h hm hs hy s1 s2 s3 s4 hx hxk hnc hTn ho
        go_enter Try.func52, Try.ntmps52
        go_wp2_with fail
        refine H1.out.mono ?_
        rintro e w1 ⟨rfl, rfl⟩
        go_wp2_with fail
        go_ret
        exact ⟨rfl, HS0.out⟩
      · rw [if_neg (fun e => e.elim h8 (by simp))]
        have hd8 : ((x.o.k : Int) == 8) = false := by simp; omega
        have hm2 := (hm.put (x' := { y with oid := 0 }) (j := 5) (v := .int .i64 0) hy (by omega) rfl rfl rfl rfl).put (x' := { y with oid := 0, dirty := false }) (j := 6) (v := .bool false) (List.getElem?_set_self (by rw [hTn]; exact hlt)) (by omega) rfl rfl rfl rfl
        rw [List.set_set] at hm2
        have hoid : ∀ j : Nat, (untieH H x).oidOf (j : Int) = if (j : Int) = (x.h : Int) then none else H.oidOf (j : Int) := fun j => (congrFun (oid_del H x.h) (j : Int)).symm
        have hs2 : Says (untieH H x) (T.set kn { y with oid := 0, dirty := false }) := hs.upd (H' := untieH H x) (x' := { y with oid := 0, dirty := false }) hok hx (y := { x with dirty := false }) rfl rfl rfl (fun j hj => by rw [hoid, if_neg (by omega)]) s1 s2 (by rw [hoid, if_pos (by omega)]; rfl) rfl
        have HF := Lib.hid (Stp.of_rm (w := w) (H' := untieH H x) hm2 hs2 ((offS (Off.setc _ _ _ _) _ _ _ rfl).mono fun b _ e => by rw [show b = q from e, hm.rq]; intro e; cases e))
        clear h hm hs hy s1 s2 s3 s4 hx hxk hnc hTn hm2 hs2 hoid ho h8
        go_enter Try.func52, Try.ntmps52
        go_wp2_with fail
        refine H1.out.mono ?_
        rintro e w1 ⟨rfl, rfl⟩
        go_wp2_with fail
        go_ret
        exact ⟨rfl, HF.out⟩
set_option maxHeartbeats 2000000 in
theorem rtie_any (h : RX w r R H) (hok : H.Ok t) (hcn : H.count ≤ 100000) (k o : Int) :
    Calls Try.prog 51 #[.pointer (some ⟨r, 0, none⟩), .int .i64 k, .int .i64 o] w fun e w' => e = .returned (.int .i64 ((tieF H k o).2 : Int)) ∧ Stp w w' r R (tieF H k o).1 := by
  have H1 := Lib.hid (rhas_rx h hok k)
  have H2 := Lib.hid (rof_rx h hok hcn o)
  have HS0 := Lib.hid (Stp.id h)
  unfold tieF
  cases hx : H.obj k with
  | none =>
    rw [hx, Option.isSome_none] at H1
    dsimp only
    clear h H2
    go_enter Try.func51, Try.ntmps51
    go_wp2_with fail
    refine H1.out.mono ?_
    rintro e w1 ⟨rfl, rfl⟩
    go_wp2_with fail
    go_ret
    exact ⟨rfl, HS0.out⟩
  | some x =>
    rw [hx, Option.isSome_some] at H1
    dsimp only
    obtain ⟨kn, n, q, c, T, y, rfl, hxk, hlt, hnc, hTn, hm, hs, hy, s1, s2, s3, s4⟩ := h.at_ hok hx
    obtain ⟨c0, c1, cf⟩ := hm.told
    obtain ⟨_, _, _, _, _, q5, q6⟩ := hm.row.told hy
    have qf := hm.row.frozen
    rw [hTn] at c1
    rw [s3] at q5
    by_cases h1 : o < 1
    · rw [if_pos (.inl h1)]
      have d1 : decide (o < 1) = true := by simpa using h1
      clear h hm hs hy s1 s2 s3 s4 hx hxk hnc hTn H2
      go_enter Try.func51, Try.ntmps51
      go_wp2_with fail
      refine H1.out.mono ?_
      rintro e w1 ⟨rfl, rfl⟩
      go_wp2_with fail
      go_ret
      exact ⟨rfl, HS0.out⟩
    have d1 : decide (o < 1) = false := by simpa using h1
    by_cases h2 : 16384 < o
    · rw [if_pos (.inr h2)]
      have d2 : decide (o > 16384) = true := by simpa using h2
      clear h hm hs hy s1 s2 s3 s4 hx hxk hnc hTn H2
      go_enter Try.func51, Try.ntmps51
      go_wp2_with fail
      refine H1.out.mono ?_
      rintro e w1 ⟨rfl, rfl⟩
      go_wp2_with fail
      go_ret
      exact ⟨rfl, HS0.out⟩
    have d2 : decide (o > 16384) = false := by simpa using h2
    rw [if_neg (by omega)]
    cases hf : H.ofOid o with
    | some v =>
      rw [if_pos (.inr rfl)]
      rw [hf, Option.isSome_some, Option.getD_some] at H2
      clear h hm hs hy s1 s2 s3 s4 hx hxk hnc hTn hf
      go_enter Try.func51, Try.ntmps51
      go_wp2_with fail
      refine H1.out.mono ?_
      rintro e w1 ⟨rfl, rfl⟩
      go_wp2_with fail
      refine H2.out.mono ?_
      rintro e w1 ⟨rfl, rfl⟩
      go_wp2_with fail
      go_ret
      exact ⟨rfl, HS0.out⟩
    | none =>
      rw [hf, Option.isSome_none, Option.getD_none] at H2
      cases ho : H.oidOf (kn : Int) with
      | some v =>
        rw [if_pos (.inl rfl)]
        rw [ho, Option.getD_some] at q5
        have hv := oid_pos hok ho
        have d3 : decide ((v : Int) > 0) = true := by simp; omega
        clear h hm hs hy s1 s2 s3 s4 hx hxk hnc hTn hf ho
        go_enter Try.func51, Try.ntmps51
        go_wp2_with fail
        refine H1.out.mono ?_
        rintro e w1 ⟨rfl, rfl⟩
        go_wp2_with fail
        refine H2.out.mono ?_
        rintro e w1 ⟨rfl, rfl⟩
        go_wp2_with fail
        go_ret
        exact ⟨rfl, HS0.out⟩
      | none =>
        rw [if_neg (by simp)]
        rw [ho, Option.getD_none] at q5
        obtain ⟨on, rfl⟩ : ∃ on : Nat, o = on := ⟨o.toNat, by omega⟩
        rw [Int.toNat_natCast]
        have hm2 := (hm.put (x' := { y with oid := on }) (j := 5) (v := .int .i64 (on : Int)) hy (by omega) rfl rfl rfl rfl).put (x' := { y with oid := on, dirty := false }) (j := 6) (v := .bool false) (List.getElem?_set_self (by rw [hTn]; exact hlt)) (by omega) rfl rfl rfl rfl
        rw [List.set_set] at hm2
        have hoid : ∀ j : Nat, (tieH H x.h on).oidOf (j : Int) = if (j : Int) = (x.h : Int) then some on else H.oidOf (j : Int) := fun j => (congrFun (oid_add H x.h on (by rw [hxk]; exact ho)) (j : Int)).symm
        have hdy : x.dirty = false := dirty_tied hok hx ho
        have hs2 : Says (tieH H x.h on) (T.set kn { y with oid := on, dirty := false }) := hs.set_ (H' := tieH H x.h on) (x' := { y with oid := on, dirty := false }) rfl (fun j _ => rfl) (fun j hj => by rw [hoid, if_neg (by omega)]) ⟨by show y.o = getO H (kn : Int); rw [getO_of hx]; exact s1, by show y.is = (H.obj (kn : Int)).isSome; rw [hx]; exact s2, by rw [hoid, if_pos (by omega)]; rfl, by show false = isD H (kn : Int); rw [isD_of hx]; exact hdy.symm⟩
        have HF := Lib.hid (Stp.of_rm (w := w) (H' := tieH H x.h on) hm2 hs2 ((offS (Off.setc _ _ _ _) _ _ _ rfl).mono fun b _ e => by rw [show b = q from e, hm.rq]; intro e; cases e))
        clear h hm hs hy s1 s2 s3 s4 hx hxk hnc hTn hm2 hs2 hoid ho hf hdy h1 h2
        go_enter Try.func51, Try.ntmps51
        go_wp2_with fail
        refine H1.out.mono ?_
        rintro e w1 ⟨rfl, rfl⟩
        go_wp2_with fail
        refine H2.out.mono ?_
        rintro e w1 ⟨rfl, rfl⟩
        go_wp2_with fail
        go_ret
        exact ⟨rfl, HF.out⟩
end
end Go.Proofs.Ytclkkfffecmjnaa
