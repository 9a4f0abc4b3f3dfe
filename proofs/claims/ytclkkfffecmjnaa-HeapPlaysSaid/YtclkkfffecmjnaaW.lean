/- heap: what is done with a heap: its state behind it. -/
import Derived.Test.YtclkkfffecmjnaaU
import Derived.Test.YtclkkfffecmjnaaP
namespace Go.Proofs.Ytclkkfffecmjnaa
open Go.RowKit
theorem updL_dir {y : Ho} {L : List Ho} {P : Ho → Prop} (hy : P y) (h : ∀ x ∈ L, P x) : ∀ x ∈ updL y L, P x := fun x hx => by
  rcases updL_mem hx with ⟨rfl, _⟩ | ⟨hx, _⟩
  · exact hy
  · exact h x hx
theorem upd_ok {H : HS} {t : Nat} (hok : H.Ok t) {x y : Ho} (hx : x ∈ H.L) (hy : y.h = x.h) (hs : Hp.small y.o) (hm : Hp.mayO y.o = true) (hd : y.dirty = true → ∃ p ∈ H.T, p.1 = y.h) (h8 : y.o.k = 8 → ∃ p ∈ H.T, p.1 = y.h ∧ (p.2 : Int) = y.o.tag) {u : Nat} (hu : u + Hp.sizeO x.o = H.used + Hp.sizeO y.o) (hl : u ≤ H.limit) :
    ({ H with used := u, L := updL y H.L } : HS).Ok t where
  rise := updL_rise hok.rise
  inn := fun z hz => by
    rcases updL_mem hz with ⟨rfl, _⟩ | ⟨hz, _⟩
    · have := hok.inn x hx
      exact ⟨by rw [hy]; exact this.1, by rw [hy]; exact this.2.1, hs, hm⟩
    · exact hok.inn z hz
  ties := hok.ties
  tied := fun p hp => by
    obtain ⟨⟨z, hz, e⟩, h2⟩ := hok.tied p hp
    refine ⟨?_, h2⟩
    by_cases ez : z.h = y.h
    · exact ⟨y, updL_in ⟨z, hz, ez⟩, by rw [← ez]; exact e⟩
    · exact ⟨z, updL_keep hz ez, e⟩
  dirty := fun z hz hdz => by
    rcases updL_mem hz with ⟨rfl, _⟩ | ⟨hz, _⟩
    · exact hd hdz
    · exact hok.dirty z hz hdz
  stub := fun z hz hz8 => by
    rcases updL_mem hz with ⟨rfl, _⟩ | ⟨hz, _⟩
    · exact h8 hz8
    · exact hok.stub z hz hz8
  sum := by
    have h1 := total_upd hy hok.rise hx
    have h2 := hok.sum
    show u = Hp.total (updL y H.L)
    omega
  room := ⟨hl, hok.room.2⟩
  cnt := hok.cnt
def tieH (H : HS) (h o : Nat) : HS := { H with T := H.T ++ [(h, o)] }
theorem tie_ok {H : HS} {t : Nat} (hok : H.Ok t) {x : Ho} (hx : x ∈ H.L) {o : Nat} (ho : 1 ≤ o ∧ o ≤ 16384) (h1 : H.oidOf x.h = none) (h2 : H.ofOid o = none) : (tieH H x.h o).Ok t where
  rise := hok.rise
  inn := hok.inn
  ties := by
    show (H.T ++ [(x.h, o)]).Pairwise _
    rw [List.pairwise_append]
    refine ⟨hok.ties, List.pairwise_singleton _ _, fun a ha b hb => ?_⟩
    rw [List.mem_singleton.1 hb]
    have e1 := HS.oid_none h1 a ha
    have e2 := HS.of_none h2 a ha
    exact ⟨fun e => e1 (by rw [e]), fun e => e2 (by rw [e])⟩
  tied := fun p hp => by
    rcases List.mem_append.1 hp with h | h
    · exact hok.tied p h
    · rw [List.mem_singleton.1 h]; exact ⟨⟨x, hx, rfl⟩, ho⟩
  dirty := fun z hz hd => by
    obtain ⟨p, hp, e⟩ := hok.dirty z hz hd
    exact ⟨p, List.mem_append.2 (.inl hp), e⟩
  stub := fun z hz h8 => by
    obtain ⟨p, hp, e⟩ := hok.stub z hz h8
    exact ⟨p, List.mem_append.2 (.inl hp), e⟩
  sum := hok.sum
  room := hok.room
  cnt := hok.cnt
def untieH (H : HS) (x : Ho) : HS := { H with L := updL { x with dirty := false } H.L, T := delT x.h H.T }
theorem untie_ok {H : HS} {t : Nat} (hok : H.Ok t) {x : Ho} (hx : x ∈ H.L) (h8 : x.o.k ≠ 8) : (untieH H x).Ok t := by
  have h0 := upd_ok (y := { x with dirty := false }) hok hx rfl (hok.inn x hx).2.2.1 (hok.inn x hx).2.2.2 (fun e => by cases e) (fun e => absurd e h8) (u := H.used) rfl hok.room.1
  have hT : ∀ p ∈ H.T, p.1 ≠ x.h → p ∈ delT x.h H.T := fun p hp e => List.mem_filter.2 ⟨hp, by simpa using e⟩
  refine ⟨h0.rise, h0.inn, hok.ties.sublist List.filter_sublist, fun p hp => h0.tied p (List.mem_filter.1 hp).1, fun z hz hd => ?_, fun z hz hz8 => ?_, h0.sum, h0.room, h0.cnt⟩
  · rcases updL_mem hz with ⟨rfl, _⟩ | ⟨hz, hne⟩
    · cases hd
    · obtain ⟨p, hp, e⟩ := hok.dirty z hz hd
      exact ⟨p, hT p hp (by rw [e]; exact hne), e⟩
  · rcases updL_mem hz with ⟨rfl, _⟩ | ⟨hz, hne⟩
    · exact absurd hz8 h8
    · obtain ⟨p, hp, e⟩ := hok.stub z hz hz8
      exact ⟨p, hT p hp (by rw [e.1]; exact hne), e⟩
def cleanH (H : HS) (x : Ho) : HS := { H with L := updL { x with dirty := false } H.L }
theorem clean_ok {H : HS} {t : Nat} (hok : H.Ok t) {x : Ho} (hx : x ∈ H.L) : (cleanH H x).Ok t :=
  upd_ok (y := { x with dirty := false }) hok hx rfl (hok.inn x hx).2.2.1 (hok.inn x hx).2.2.2 (fun e => by cases e) (fun e => hok.stub x hx e) (u := H.used) rfl hok.room.1
theorem mayO_set {o : Ob} (hm : Hp.mayO o = true) {z : Wd} (hz : Hp.wordOk z = true) (i : Nat) : Hp.mayO { o with ws := o.ws.set i z } = true := by
  unfold Hp.mayO at hm ⊢
  dsimp only at hm ⊢
  rw [List.length_set]
  cases hk : Hp.kindO o.k o.ws.length with
  | none => rw [hk] at hm; cases hm
  | some p =>
    rw [hk] at hm
    obtain ⟨a, b, c⟩ := p
    dsimp only at hm ⊢
    rw [Bool.and_eq_true] at hm ⊢
    refine ⟨hm.1, ?_⟩
    rw [List.all_eq_true] at hm ⊢
    intro y hy
    rcases List.mem_or_eq_of_mem_set hy with h | h
    · exact hm.2 y h
    · rw [h]; exact hz
def setH (H : HS) (x : Ho) (i : Nat) (z : Wd) : HS := { H with L := updL ⟨x.h, { x.o with ws := x.o.ws.set i z }, (H.oidOf x.h).isSome⟩ H.L }
theorem oid_mem {H : HS} {h : Nat} (e : (H.oidOf (h : Int)).isSome = true) : ∃ p ∈ H.T, p.1 = h := by
  obtain ⟨o, ho⟩ := Option.isSome_iff_exists.1 e
  obtain ⟨p, hp, e1, _⟩ := HS.oid_some ho
  exact ⟨p, hp, by omega⟩
theorem set_ok {H : HS} {t : Nat} (hok : H.Ok t) {x : Ho} (hx : x ∈ H.L) {i : Nat} {z : Wd} (hs : setsO x.o = true) (hz : Hp.wordOk z = true) : (setH H x i z).Ok t := by
  have hin := hok.inn x hx
  have hk8 : x.o.k ≠ 8 := fun e => by unfold setsO at hs; rw [e] at hs; simp at hs
  refine upd_ok (y := ⟨x.h, { x.o with ws := x.o.ws.set i z }, (H.oidOf x.h).isSome⟩) hok hx rfl ⟨?_, hin.2.2.1.2.1, hin.2.2.1.2.2⟩ (mayO_set hin.2.2.2 hz i) (fun e => oid_mem e) (fun e => absurd e hk8) (u := H.used) ?_ hok.room.1
  · show (x.o.ws.set i z).length ≤ _
    rw [List.length_set]; exact hin.2.2.1.1
  · congr 1
    unfold Hp.sizeO
    dsimp only
    rw [List.length_set]
theorem fill_ok {H : HS} {t : Nat} (hok : H.Ok t) {x : Ho} (hx : x ∈ H.L) (h8 : x.o.k = 8) {o : Ob} (hs : Hp.small o) (hm : fillB o = true) (hl : Hp.sizeO o ≤ H.limit - (H.used - 1)) : (fillH H x o).Ok t := by
  unfold fillB at hm
  simp only [Bool.and_eq_true, Bool.not_eq_true', Bool.or_eq_false_iff, decide_eq_false_iff_not] at hm
  obtain ⟨hm1, ⟨_, _⟩, hm8⟩ := hm
  have hx1 : Hp.sizeO x.o = 1 := by unfold Hp.sizeO; rw [if_pos h8]
  have hpos := Hp.sizeO_pos o
  have hrm := hok.room
  have hle : 1 ≤ H.used := by
    rw [hok.sum]
    have := (delL_one hok.rise hx).2
    omega
  refine upd_ok (y := ⟨x.h, o, x.dirty⟩) hok hx rfl hs hm1 (fun e => hok.dirty x hx e) (fun e => absurd e hm8) (u := H.used + Hp.sizeO o - 1) ?_ ?_
  · rw [hx1]; show _ = H.used + Hp.sizeO o; omega
  · omega
/-! ### What is answered. -/
def allocF (H : HS) (o : Ob) : HS × Nat × Nat :=
  if Hp.mayO o = false then (H, 0, 1) else if o.k = 8 ∧ (H.ofOid o.tag).isSome = true then (H, 0, 3) else if H.limit - H.used < Hp.sizeO o then (H, 0, 6) else (allocH H o, H.count + 1, 0)
section
variable {w0 w : World} {X : Nat → Prop} {g t : Nat} {H : HS}
theorem alloc_hr (h : HR w0 w X g t H) (ht : t < 400000) (o : Ob) (A : Option Addr) (c : Nat) (ho : OArg w o A) (hA : ∀ p : Addr, A = some p → X p.block ∨ p.block < w0.heap.size) :
    Calls Try.prog 36 #[.pointer (some ⟨g, 0, none⟩), obv o A c] w fun e w' => e = .returned (.tuple #[.int .i64 ((allocF H o).2.1 : Int), .int .i64 ((allocF H o).2.2 : Int)]) ∧ HR w0 w' X g (t + 2) (allocF H o).1 ∧ Keep X w w' := by
  have h0 := h
  obtain ⟨⟨M, n, hm, rfl, hn, hf⟩, hl, hbe, hok⟩ := h
  by_cases hmay : Hp.mayO o = false
  · have e : allocF H o = (H, 0, 1) := by unfold allocF; rw [if_pos hmay]
    rw [e]
    refine (alloc_arg hm o A c ho hmay).mono ?_
    rintro e w' ⟨rfl, hb⟩
    have := (h0.mono (Nat.le_add_right t 2)).below hb
    exact ⟨rfl, this⟩
  · have hmay' : Hp.mayO o = true := by simpa using hmay
    by_cases hst : o.k = 8 ∧ (H.ofOid o.tag).isSome = true
    · have e : allocF H o = (H, 0, 3) := by unfold allocF; rw [if_neg hmay, if_pos hst]
      rw [e]
      refine (alloc_state hm o A c ho hmay' hst.1 hst.2).mono ?_
      rintro e w' ⟨rfl, hb⟩
      exact ⟨rfl, (h0.mono (Nat.le_add_right t 2)).below hb⟩
    · have h8 : o.k = 8 → H.ofOid o.tag = none := fun e => by
        cases hh : H.ofOid o.tag with
        | none => rfl
        | some v => exact absurd ⟨e, by rw [hh]; rfl⟩ hst
      refine (alloc_go hm hok (by omega) (by omega) o A c ho (fun p hp => ?_) hmay' h8).mono ?_
      · cases hr : M.R p.block with
        | no => rfl
        | _ =>
          have h1 := hf p.block (by rw [hr]; intro e; cases e)
          rcases hA p hp with h2 | h2
          · exact absurd h2 h1.2
          · omega
      · rintro e w' (⟨hlt, rfl, hb⟩ | ⟨hle, rfl, M', hg, hm', hoff, hR⟩)
        · have e : allocF H o = (H, 0, 6) := by unfold allocF; rw [if_neg hmay, if_neg hst, if_pos hlt]
          rw [e]
          exact ⟨rfl, (h0.mono (Nat.le_add_right t 2)).below hb⟩
        · have e : allocF H o = (allocH H o, H.count + 1, 0) := by unfold allocF; rw [if_neg hmay, if_neg hst, if_neg (by omega)]
          rw [e]
          exact ⟨rfl, HR.next hf hl hbe hoff hm' hg (by omega) hR ((allocOk hok ho.small hmay' h8 hle).mono (by omega))⟩
/-- A step that keeps where everything lies. -/
theorem HR.still {M : Mem} {n n' u : Nat} {w' : World} {H' : HS} (_hm : HM w M n H) (hf : ∀ b, M.R b ≠ .no → w0.heap.size ≤ b ∧ ¬ X b) (hl : ∀ b, X b → b < w.heap.size) (hbe : Below w0.heap.size w0 w) (ho : Off (fun b => M.R b ≠ .no) w w') (hm' : HM w' M n' H') (hn : n' ≤ u) (hok : H'.Ok u) : HR w0 w' X M.g u H' ∧ Keep X w w' :=
  HR.next hf hl hbe ho hm' rfl hn (fun _ hb => .inl hb) hok
def tieF (H : HS) (k o : Int) : HS × Nat := match H.obj k with
  | none => (H, 7)
  | some x => if o < 1 ∨ 16384 < o then (H, 1) else if (H.oidOf k).isSome = true ∨ (H.ofOid o).isSome = true then (H, 3) else (tieH H x.h o.toNat, 0)
theorem tie_hr (h : HR w0 w X g t H) (ht : t < 400000) (k o : Int) (hk : (Lit.int .i64 k).wf = true) :
    Calls Try.prog 43 #[.pointer (some ⟨g, 0, none⟩), .int .i64 k, .int .i64 o] w fun e w' => e = .returned (.int .i64 ((tieF H k o).2 : Int)) ∧ HR w0 w' X g (t + 2) (tieF H k o).1 ∧ Keep X w w' := by
  have h0 := h
  obtain ⟨⟨M, n, hm, rfl, hn, hf⟩, hl, hbe, hok⟩ := h
  unfold tieF
  cases hx : H.obj k with
  | none =>
    refine (tieE_none hm k o hk hx).mono ?_
    rintro e w' ⟨rfl, rfl⟩
    exact ⟨rfl, h0.mono (Nat.le_add_right t 2), Keep.refl _ _⟩
  | some x =>
    dsimp only
    by_cases ho : o < 1 ∨ 16384 < o
    · rw [if_pos ho]
      refine (tieE_arg hm k o hk hx ho).mono ?_
      rintro e w' ⟨rfl, rfl⟩
      exact ⟨rfl, h0.mono (Nat.le_add_right t 2), Keep.refl _ _⟩
    · rw [if_neg ho]
      have ho' : 1 ≤ o ∧ o ≤ 16384 := by omega
      by_cases hs : (H.oidOf k).isSome = true ∨ (H.ofOid o).isSome = true
      · rw [if_pos hs]
        refine (tieE_state hm k o hk hx ho' hs).mono ?_
        rintro e w' ⟨rfl, rfl⟩
        exact ⟨rfl, h0.mono (Nat.le_add_right t 2), Keep.refl _ _⟩
      · rw [if_neg hs]
        obtain ⟨hxl, hxk⟩ := HS.obj_some hx
        have h1 : H.oidOf k = none := by
          cases hh : H.oidOf k with
          | none => rfl
          | some v => exact absurd (.inl (by rw [hh]; rfl)) hs
        have h2 : H.ofOid o = none := by
          cases hh : H.ofOid o with
          | none => rfl
          | some v => exact absurd (.inr (by rw [hh]; rfl)) hs
        have hin := hok.inn x hxl
        have hcn := hok.cnt
        refine (tieE_ok hm k o hk hx ho' h1 h2 (by omega) (by omega)).mono ?_
        rintro e w' ⟨rfl, hm', hoff⟩
        refine ⟨rfl, HR.still hm hf hl hbe (hoff.mono fun b _ e => ?_) hm' (by omega) ((tie_ok hok hxl (by omega) (by rw [hxk]; exact h1) (by rw [Int.toNat_of_nonneg (by omega)]; exact h2)).mono (by omega))⟩
        rcases e with e | e
        · rw [e, hm.roi]; intro e; cases e
        · rw [e, hm.rha]; intro e; cases e
def setF (H : HS) (k i : Int) (z : Wd) : HS × Bool := match H.obj k with
  | none => (H, false)
  | some x => if setsO x.o = false ∨ i < 0 ∨ (x.o.ws.length : Int) ≤ i ∨ Hp.wordOk z = false then (H, false) else (setH H x i.toNat z, true)
theorem set_hr (h : HR w0 w X g t H) (k i : Int) (z : Wd) (hz : z.ok) (hk : (Lit.int .i64 k).wf = true) :
    Calls Try.prog 40 #[.pointer (some ⟨g, 0, none⟩), .int .i64 k, .int .i64 i, .agg #[.int .u8 (z.k : Int), .int .i64 z.n]] w fun e w' => e = .returned (.bool (setF H k i z).2) ∧ HR w0 w' X g (t + 2) (setF H k i z).1 ∧ Keep X w w' := by
  have h0 := h
  obtain ⟨⟨M, n, hm, rfl, hn, hf⟩, hl, hbe, hok⟩ := h
  have hsm : ∀ x, H.obj k = some x → x.o.ws.length ≤ 100000 ∧ x.o.k < 256 := fun x hx => by
    have := hok.inn x (HS.obj_some hx).1
    exact ⟨this.2.2.1.1, this.2.2.1.2.2⟩
  unfold setF
  cases hx : H.obj k with
  | none =>
    refine (set_no hm k i z hz hk hsm (.inl hx)).mono ?_
    rintro e w' ⟨rfl, hb⟩
    exact ⟨rfl, (h0.mono (Nat.le_add_right t 2)).below hb⟩
  | some x =>
    dsimp only
    by_cases hs : setsO x.o = false ∨ i < 0 ∨ (x.o.ws.length : Int) ≤ i ∨ Hp.wordOk z = false
    · rw [if_pos hs]
      refine (set_no hm k i z hz hk hsm (.inr ⟨x, hx, hs⟩)).mono ?_
      rintro e w' ⟨rfl, hb⟩
      exact ⟨rfl, (h0.mono (Nat.le_add_right t 2)).below hb⟩
    · rw [if_neg hs]
      simp only [not_or, Bool.not_eq_false] at hs
      obtain ⟨hs1, hs2, hs3, hs4⟩ := hs
      obtain ⟨hxl, hxk⟩ := HS.obj_some hx
      obtain ⟨j, rfl⟩ : ∃ j : Nat, i = j := ⟨i.toNat, by omega⟩
      refine (set_yes hm k j z hz hk hx (hsm x hx).1 hs1 (by omega) hs4).mono ?_
      rintro e w' ⟨rfl, hm', hoff⟩
      rw [← hxk] at hm'
      rw [Int.toNat_natCast]
      exact ⟨rfl, HR.still hm hf hl hbe hoff hm' (by omega) ((set_ok hok hxl hs1 hs4).mono (by omega))⟩
end
end Go.Proofs.Ytclkkfffecmjnaa
