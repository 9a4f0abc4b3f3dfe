/- heap: what is done with a heap: the rest of it. -/
import Derived.Test.YtclkkfffecmjnaaW
namespace Go.Proofs.Ytclkkfffecmjnaa
open Go.RowKit
theorem cutH_congr {H : HS} {t : Nat} (hok : H.Ok t) {K K' : Nat → Bool} (h : ∀ x ∈ H.L, K x.h = K' x.h) : cutH H K = cutH H K' := by
  have e1 : (H.L.filter fun x => K x.h) = H.L.filter fun x => K' x.h := List.filter_congr h
  have e2 : (H.T.filter fun p => K p.1) = H.T.filter fun p => K' p.1 := List.filter_congr fun p hp => by
    obtain ⟨⟨x, hx, e⟩, _⟩ := hok.tied p hp
    rw [← e]; exact h x hx
  unfold cutH
  rw [e1, e2]
/-- What is a root for Collect. -/
def rootC (H : HS) (zs : List Int) (k : Int) : Prop := k ∈ zs ∨ k ∈ nums (dirtyL H)
open Classical in
noncomputable def collectH (H : HS) (zs : List Int) : HS := cutH H fun j => decide (Reach H (rootC H zs) j)
theorem collectH_eq {H : HS} {t : Nat} (hok : H.Ok t) {zs : List Int} {K : Nat → Bool} (h : ∀ x ∈ H.L, K x.h = true ↔ Reach H (rootC H zs) x.h) : cutH H K = collectH H zs := cutH_congr hok fun x hx => by
  rw [Bool.eq_iff_iff, h x hx]
  simp
def fillF (H : HS) (k : Int) (o : Ob) : HS × Nat := match H.obj k with
  | none => (H, 7)
  | some x => if x.o.k ≠ 8 then (H, 3) else if fillB o = false then (H, 1) else if H.limit - (H.used - 1) < Hp.sizeO o then (H, 6) else (fillH H x o, 0)
def untieF (H : HS) (k : Int) : HS × Bool := match H.obj k with
  | none => (H, false)
  | some x => if x.o.k = 8 ∨ H.oidOf k = none then (H, false) else (untieH H x, true)
def cleanF (H : HS) (k : Int) : HS × Bool := match H.obj k with
  | none => (H, false)
  | some x => if x.dirty = true then (cleanH H x, true) else (H, false)
def noOb : Ob := ⟨0, 0, [], []⟩
def getO (H : HS) (k : Int) : Ob := match H.obj k with
  | none => noOb
  | some x => x.o
def wordF (H : HS) (k i : Int) : Wd × Bool := match H.obj k with
  | none => (⟨0, 0⟩, false)
  | some x => if i < 0 then (⟨0, 0⟩, false) else match x.o.ws[i.toNat]? with
    | none => (⟨0, 0⟩, false)
    | some z => (z, true)
section
variable {w0 w : World} {X : Nat → Prop} {g t : Nat} {H : HS}
theorem collect_hr (h : HR w0 w X g t H) (ht : t < 400000) (A : Option Addr) (len c : Nat) (zs : List Int) (hlen : zs.length = len) (hl : len ≤ 100000) (hsz : H.L.length < 400000) (hA : Ints w A zs) :
    Calls Try.prog 32 #[.pointer (some ⟨g, 0, none⟩), .slice A len c] w fun e w' => e = .returned (.int .i64 ((H.L.length - (collectH H zs).L.length : Nat) : Int)) ∧ HR w0 w' X g (t + 2) (collectH H zs) ∧ Keep X w w' := by
  obtain ⟨⟨M, n, hm, rfl, hn, hf⟩, hl0, hbe, hok⟩ := h
  refine (collect_any hm hok ht (by omega) hsz A len c zs hlen hl hA).mono ?_
  rintro e w' ⟨K, rfl, hm', hoff, hK⟩
  have e := collectH_eq hok hK
  rw [e] at hm' ⊢
  exact ⟨rfl, HR.still hm hf hl0 hbe hoff hm' (by omega) (by rw [← e]; exact (cutH_ok hok K).mono (by omega))⟩
theorem fill_hr (h : HR w0 w X g t H) (k : Int) (hk : (Lit.int .i64 k).wf = true) (o : Ob) (A : Option Addr) (c : Nat) (ho : OArg w o A) (hA : ∀ p : Addr, A = some p → X p.block ∨ p.block < w0.heap.size) :
    Calls Try.prog 37 #[.pointer (some ⟨g, 0, none⟩), .int .i64 k, obv o A c] w fun e w' => e = .returned (.int .i64 ((fillF H k o).2 : Int)) ∧ HR w0 w' X g (t + 2) (fillF H k o).1 ∧ Keep X w w' := by
  have h0 := h
  obtain ⟨⟨M, n, hm, rfl, hn, hf⟩, hl, hbe, hok⟩ := h
  unfold fillF
  cases hx : H.obj k with
  | none =>
    refine (fill_none hm k hk o A c hx).mono ?_
    rintro e w' ⟨rfl, hb⟩
    exact ⟨rfl, (h0.mono (Nat.le_add_right t 2)).below hb⟩
  | some x =>
    dsimp only
    by_cases h8 : x.o.k ≠ 8
    · rw [if_pos h8]
      refine (fill_state hm k hk o A c hx h8).mono ?_
      rintro e w' ⟨rfl, hb⟩
      exact ⟨rfl, (h0.mono (Nat.le_add_right t 2)).below hb⟩
    · rw [if_neg h8]
      have h8' : x.o.k = 8 := by omega
      by_cases hb : fillB o = false
      · rw [if_pos hb]
        refine (fill_arg hm k hk o A c ho hx h8' hb).mono ?_
        rintro e w' ⟨rfl, hb⟩
        exact ⟨rfl, (h0.mono (Nat.le_add_right t 2)).below hb⟩
      · rw [if_neg hb]
        have hb' : fillB o = true := by simpa using hb
        refine (fill_go hm hok k hk o A c ho (fun p hp => ?_) hx h8' hb').mono ?_
        · cases hr : M.R p.block with
          | no => rfl
          | _ =>
            have h1 := hf p.block (by rw [hr]; intro e; cases e)
            rcases hA p hp with h2 | h2
            · exact absurd h2 h1.2
            · omega
        · rintro e w' (⟨hlt, rfl, hb⟩ | ⟨hle, rfl, M', hg, hm', hoff, hR⟩)
          · rw [if_pos hlt]
            exact ⟨rfl, (h0.mono (Nat.le_add_right t 2)).below hb⟩
          · rw [if_neg (by omega)]
            exact ⟨rfl, HR.next hf hl hbe hoff hm' hg (by omega) hR ((fill_ok hok (HS.obj_some hx).1 h8' ho.small hb' hle).mono (by omega))⟩
theorem untie_hr (h : HR w0 w X g t H) (ht : t < 400000) (k : Int) (hk : (Lit.int .i64 k).wf = true) :
    Calls Try.prog 45 #[.pointer (some ⟨g, 0, none⟩), .int .i64 k] w fun e w' => e = .returned (.bool (untieF H k).2) ∧ HR w0 w' X g (t + 2) (untieF H k).1 ∧ Keep X w w' := by
  have h0 := h
  obtain ⟨⟨M, n, hm, rfl, hn, hf⟩, hl, hbe, hok⟩ := h
  unfold untieF
  cases hx : H.obj k with
  | none =>
    refine (untieE_no hm k hk (.inl hx)).mono ?_
    rintro e w' ⟨rfl, rfl⟩
    exact ⟨rfl, h0.mono (Nat.le_add_right t 2), Keep.refl _ _⟩
  | some x =>
    dsimp only
    by_cases hs : x.o.k = 8 ∨ H.oidOf k = none
    · rw [if_pos hs]
      refine (untieE_no hm k hk (.inr ⟨x, hx, hs⟩)).mono ?_
      rintro e w' ⟨rfl, rfl⟩
      exact ⟨rfl, h0.mono (Nat.le_add_right t 2), Keep.refl _ _⟩
    · rw [if_neg hs]
      rw [not_or] at hs
      have ho : (H.oidOf k).isSome = true := by
        cases hh : H.oidOf k with
        | none => exact absurd hh hs.2
        | some v => rfl
      refine (untieE_yes hm hok (by omega) k hk hx hs.1 ho).mono ?_
      rintro e w' ⟨rfl, hm', hoff⟩
      exact ⟨rfl, HR.still hm hf hl hbe hoff hm' (by omega) ((untie_ok hok (HS.obj_some hx).1 hs.1).mono (by omega))⟩
theorem clean_hr (h : HR w0 w X g t H) (k : Int) (hk : (Lit.int .i64 k).wf = true) :
    Calls Try.prog 46 #[.pointer (some ⟨g, 0, none⟩), .int .i64 k] w fun e w' => e = .returned (.bool (cleanF H k).2) ∧ HR w0 w' X g (t + 2) (cleanF H k).1 ∧ Keep X w w' := by
  have h0 := h
  obtain ⟨⟨M, n, hm, rfl, hn, hf⟩, hl, hbe, hok⟩ := h
  unfold cleanF
  cases hx : H.obj k with
  | none =>
    refine (clean_no hm k hk (.inl hx)).mono ?_
    rintro e w' ⟨rfl, rfl⟩
    exact ⟨rfl, h0.mono (Nat.le_add_right t 2), Keep.refl _ _⟩
  | some x =>
    dsimp only
    by_cases hd : x.dirty = true
    · rw [if_pos hd]
      obtain ⟨hxl, _⟩ := HS.obj_some hx
      refine (clean_yes hm k hk hx hd).mono ?_
      rintro e w' ⟨rfl, rfl⟩
      obtain ⟨A, c, hh⟩ := hm.held x hxl
      exact ⟨rfl, HR.still hm hf hl hbe ((Off.setc _ _ _ _).mono fun b _ e => by rw [show b = M.B x.h from e, hh.lab]; intro e; cases e) (hm.flag hxl false) (by omega) ((clean_ok hok hxl).mono (by omega))⟩
    · rw [if_neg hd]
      refine (clean_no hm k hk (.inr ⟨x, hx, by simpa using hd⟩)).mono ?_
      rintro e w' ⟨rfl, rfl⟩
      exact ⟨rfl, h0.mono (Nat.le_add_right t 2), Keep.refl _ _⟩
theorem get_hr (h : HR w0 w X g t H) (k : Int) (hk : (Lit.int .i64 k).wf = true) :
    Calls Try.prog 30 #[.pointer (some ⟨g, 0, none⟩), .int .i64 k] w fun e w' => ∃ v A c, e = .returned (.tuple #[v, .bool (H.obj k).isSome]) ∧ ObV (w.heap.size + 1) w' v (getO H k) A c ∧ Below w.heap.size w w' := by
  obtain ⟨⟨M, n, hm, rfl, hn, hf⟩, hl, hbe, hok⟩ := h
  unfold getO
  cases hx : H.obj k with
  | none =>
    refine (get_none hm k hk hx).mono ?_
    rintro e w' ⟨rfl, hb⟩
    exact ⟨_, none, 0, rfl, ⟨rfl, WRow.nil _ _⟩, hb⟩
  | some x => exact get_some hm hok k hk hx
theorem word_hr (h : HR w0 w X g t H) (k i : Int) (hk : (Lit.int .i64 k).wf = true) :
    Calls Try.prog 44 #[.pointer (some ⟨g, 0, none⟩), .int .i64 k, .int .i64 i] w fun e w' => e = .returned (.tuple #[.agg #[.int .u8 ((wordF H k i).1.k : Int), .int .i64 (wordF H k i).1.n], .bool (wordF H k i).2]) ∧ Below w.heap.size w w' := by
  obtain ⟨⟨M, n, hm, rfl, hn, hf⟩, hl, hbe, hok⟩ := h
  unfold wordF
  cases hx : H.obj k with
  | none => exact word_out hm k i hk (.inl hx)
  | some x =>
    dsimp only
    by_cases hi : i < 0
    · rw [if_pos hi]
      exact word_out hm k i hk (.inr ⟨x, hx, .inl hi⟩)
    · rw [if_neg hi]
      obtain ⟨j, rfl⟩ : ∃ j : Nat, i = j := ⟨i.toNat, by omega⟩
      rw [Int.toNat_natCast]
      cases hz : x.o.ws[j]? with
      | none =>
        refine word_out hm k j hk (.inr ⟨x, hx, .inr ?_⟩)
        have := List.getElem?_eq_none_iff.1 hz
        omega
      | some z => exact word_in hm k j hk hx hz (hok.inn x (HS.obj_some hx).1).2.2.1.1
theorem oid_hr (h : HR w0 w X g t H) (k : Int) (hk : (Lit.int .i64 k).wf = true) : Calls Try.prog 31 #[.pointer (some ⟨g, 0, none⟩), .int .i64 k] w fun e w' => e = .returned (.tuple #[.int .i64 (((H.oidOf k).getD 0 : Nat) : Int), .bool (H.oidOf k).isSome]) ∧ w = w' := by
  obtain ⟨⟨M, n, hm, rfl, hn, hf⟩, hl, hbe, hok⟩ := h
  exact oid_any hm k hk
theorem of_hr (h : HR w0 w X g t H) (k : Int) (hk : (Lit.int .i64 k).wf = true) : Calls Try.prog 35 #[.pointer (some ⟨g, 0, none⟩), .int .i64 k] w fun e w' => e = .returned (.tuple #[.int .i64 (((H.ofOid k).getD 0 : Nat) : Int), .bool (H.ofOid k).isSome]) ∧ w = w' := by
  obtain ⟨⟨M, n, hm, rfl, hn, hf⟩, hl, hbe, hok⟩ := h
  exact of_any hm k hk
theorem used_hr (h : HR w0 w X g t H) : Calls Try.prog 18 #[.pointer (some ⟨g, 0, none⟩)] w fun e w' => e = .returned (.int .i64 (H.used : Int)) ∧ w = w' := by
  obtain ⟨⟨M, n, hm, rfl, hn, hf⟩, hl, hbe, hok⟩ := h
  exact used_any hm
theorem limit_hr (h : HR w0 w X g t H) : Calls Try.prog 22 #[.pointer (some ⟨g, 0, none⟩)] w fun e w' => e = .returned (.int .i64 (H.limit : Int)) ∧ w = w' := by
  obtain ⟨⟨M, n, hm, rfl, hn, hf⟩, hl, hbe, hok⟩ := h
  exact limit_any hm
theorem count_hr (h : HR w0 w X g t H) : Calls Try.prog 20 #[.pointer (some ⟨g, 0, none⟩)] w fun e w' => e = .returned (.int .i64 (H.L.length : Int)) ∧ w = w' := by
  obtain ⟨⟨M, n, hm, rfl, hn, hf⟩, hl, hbe, hok⟩ := h
  exact count_any hm
theorem dirty_hr (h : HR w0 w X g t H) (ht : t < 400000) :
    Calls Try.prog 24 #[.pointer (some ⟨g, 0, none⟩)] w fun e w' => ∃ A c, e = .returned (.slice A (dirtyL H).length c) ∧ Ints w' A (nums (dirtyL H)) ∧ (∀ p : Addr, A = some p → w.heap.size ≤ p.block ∧ p.block < w'.heap.size) ∧ Below w.heap.size w w' := by
  obtain ⟨⟨M, n, hm, rfl, hn, hf⟩, hl, hbe, hok⟩ := h
  exact dirty_any hm hok (by omega) (by omega)
end
end Go.Proofs.Ytclkkfffecmjnaa
