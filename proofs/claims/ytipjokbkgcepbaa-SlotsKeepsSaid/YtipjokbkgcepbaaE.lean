/- slots.Get. -/
import Derived.Test.YtipjokbkgcepbaaD
import Derived.Lib.SmallJoins
namespace Go.Proofs.Ytipjokbkgcepbaa
open Go.RowKit Go.Shelf Slt
attribute [local go_sem] Oper.semAt_some

theorem own_new (w : World) (base : Nat) (h : base ≤ w.heap.size) : (w.alloc (.cells #[] 5)).ownsRow base 5 1 (.slice (some ⟨w.heap.size, 0, none⟩) 0 0) 0 (([] : List UInt8).map bv) :=
  World.ownsRow_made w #[] 0 h (Nat.zero_le _) rfl
theorem run_eqnil (a : Addr) (l c : Nat) (w : World) : (binOp .eql 22 (.slice (some a) l c) (.slice none 0 0)).run Try.prog w = .ok (.bool false) w := by
  first | (simp [binOp]; done) | rfl | kernel_rfl

set_option maxHeartbeats 400000 in
theorem clone_any (g o : Nat) (len cap : Nat) (bs : List UInt8) (w : World) (hbl : bs.length = len) (h0 : 0 < len) (hl : len ≤ 1048576) (hA : Bytes w (some ⟨g, o, none⟩) bs) :
    Calls Try.prog 32 #[.slice (some ⟨g, o, none⟩) len cap] w fun e w' => ∃ q c, e = .returned (.slice (some ⟨q, 0, none⟩) len c) ∧ Rw w' q len c bs ∧ w.heap.size ≤ q ∧ Below w.heap.size w w' := by
  have hb0 : Below w.heap.size w (w.alloc (.cells #[] 5)) := (Below.refl _ w).alloc (Nat.le_refl _) _
  obtain ⟨v1, w1, hrun1, hown1, hgr1⟩ := run_app8 (w.alloc (.cells #[] 5)) w.heap.size _ 0 [] (own_new w w.heap.size (Nat.le_refl _)) (some ⟨g, o, none⟩) len cap bs hbl (hA.below hb0) (by omega) (by simp)
  rw [List.nil_append, Nat.zero_add] at hown1
  have hb1 : Below w.heap.size w w1 := hb0.grown hgr1 (by simp) (fun k e => by simp [Value.ownBlock] at e; omega)
  obtain ⟨q, c, hv, hq⟩ : ∃ q c, v1 = .slice (some ⟨q, 0, none⟩) len c ∧ w.heap.size ≤ q := by
    rcases hown1.2 with ⟨rfl, e⟩ | ⟨q, c, cur, e, h1, _⟩
    · omega
    · exact ⟨q, c, e, h1⟩
  subst hv
  have HRUN := Lib.hid hrun1
  have HO := Lib.hid (Rw.of_own hown1)
  have HB1 := Lib.hid hb1
  have heq := run_eqnil ⟨g, o, none⟩ len cap
  clear hrun1 hown1 hgr1 hb1 hb0 hA
  go_enter Try.func32, Try.ntmps32
  go_wp2_with (at_builtin; refine wpList_app rfl _ _ 22 rfl _ _ _ _ rfl rfl HRUN.out ?_; clear HRUN)
  go_ret
  exact ⟨_, _, rfl, HO.out, hq, HB1.out⟩

/-- Variables of the call's own, one behind the other, and a box behind them. -/
structure Vars (w : World) (l : List (TypeId × Value)) (W : World) : Prop where
  b : ∀ i t v, l[i]? = some (t, v) → Blk W (w.heap.size + i) t #[v]
  bel : Below w.heap.size w W
  sz : w.heap.size + l.length + 1 ≤ W.heap.size
theorem Vars.grown {w W W' : World} {l : List (TypeId × Value)} {row : Option Nat} (h : Vars w l W) (hg : W.grownBy W' row) (hr : ∀ r, row = some r → w.heap.size + l.length + 1 ≤ r ∧ ∃ o : Obj, W.heap[r]? = some o ∧ o.isCells = false) : Vars w l W' :=
  ⟨fun i t v hi => (h.b i t v hi).kept hg fun r e => (hr r e).2, h.bel.grown hg h.bel.size (fun k e => by have := (hr k e).1; omega), Nat.le_trans h.sz hg.size⟩
theorem Vars.below {w W W' : World} {l : List (TypeId × Value)} (h : Vars w l W) (hb : Below W.heap.size W W') : Vars w l W' :=
  ⟨fun i t v hi => (h.b i t v hi).below hb (h.b i t v hi).lt, h.bel.trans (hb.mono h.bel.size), Nat.le_trans h.sz hb.size⟩
theorem Vars.set_ {w W : World} {l : List (TypeId × Value)} (h : Vars w l W) (i : Nat) (t : TypeId) (v u : Value) (hi : l[i]? = some (t, v)) : Vars w (l.set i (t, u)) (W.setCell ⟨w.heap.size + i, 0, none⟩ u) := by
  refine ⟨fun j t' v' hj => ?_, h.bel.setCell (p := ⟨w.heap.size + i, 0, none⟩) (Nat.le_add_right _ _) _, by simp [World.setCell]; exact h.sz⟩
  by_cases e : j = i
  · subst e
    have hl := (List.getElem?_eq_some_iff.1 hi).1
    rw [List.getElem?_set_self hl] at hj
    cases hj
    have := (h.b j t v hi).set_ 0 u
    simpa using this
  · rw [List.getElem?_set_ne (fun e' => e e'.symm)] at hj
    exact (h.b j t' v' hj).far (p := ⟨w.heap.size + i, 0, none⟩) (by show w.heap.size + j ≠ w.heap.size + i; omega) u
theorem Vars.fin {w W : World} {l : List (TypeId × Value)} (h : Vars w l W) {D : Nat} (hD : w.heap.size + l.length + 1 ≤ D) (hK : W.heap[D]? = some (.deferred (some []))) : Vars w l (W.putObj D (.deferred none)) :=
  h.grown (grownBy_putObj' W D (.deferred none)) (fun r e => by cases e; exact ⟨hD, _, hK, rfl⟩)

/-- The record that is asked for, if there is one. -/
def gotR (p : List UInt8) (slot : Int) : Option (List UInt8) := if 0 ≤ slot then ((recs p)[slot.toNat]?).bind fun r => if r.length = 0 then none else some r else none
def GotP (p : List UInt8) (slot : Int) (w : World) (e : Ending) (W' : World) : Prop :=
  (gotR p slot = none ∧ e = .returned (.tuple #[.slice none 0 0, .bool false]) ∧ Below w.heap.size w W') ∨
  ∃ r g c, gotR p slot = some r ∧ e = .returned (.tuple #[.slice (some ⟨g, 0, none⟩) r.length c, .bool true]) ∧ Rw W' g r.length c r ∧ w.heap.size ≤ g ∧ Below w.heap.size w W'
theorem gotR_none {p : List UInt8} {slot : Int} (h : ∀ (k : Nat) (r : List UInt8), (recs p)[k]? = some r → (k : Int) = slot → r.length = 0) : gotR p slot = none := by
  unfold gotR
  split
  · cases e : (recs p)[slot.toNat]? with
    | none => rfl
    | some r => have := h _ r e (by omega); simp [List.eq_nil_of_length_eq_zero this]
  · rfl
theorem gotR_some {p : List UInt8} {slot : Int} {k : Nat} {r : List UInt8} (h : (recs p)[k]? = some r) (hk : (k : Int) = slot) (hr : r.length ≠ 0) : gotR p slot = some r := by
  unfold gotR
  rw [if_pos (by omega), show slot.toNat = k by omega, h]
  simp only [Option.bind_some]
  rw [if_neg hr]

def GetV (slot : Int) (v : Value) (b : Bool) : List (TypeId × Value) := [(3, .int .i64 slot), (22, v), (4, .bool b)]
def GetI (p : List UInt8) (slot : Int) (w : World) {n : Nat} (pre : List (Slot n)) (W : World) : Prop := (∀ x ∈ pre, (x.1 : Int) = slot → (recAt p x).length = 0) ∧ Vars w (GetV slot (.slice none 0 0) false) W
def GetX (p : List UInt8) (slot : Int) (w : World) {n : Nat} (c : Code) (pre : List (Slot n)) (W : World) : Prop := c = .ret ∧ ∃ init x g k, pre = init ++ [x] ∧ (x.1 : Int) = slot ∧ (recAt p x).length ≠ 0 ∧ Vars w (GetV slot (.slice (some ⟨g, 0, none⟩) (recAt p x).length k) true) W ∧ Rw W g (recAt p x).length k (recAt p x) ∧ w.heap.size + 4 ≤ g

set_option maxRecDepth 100000 in
set_option maxHeartbeats 1000000 in
theorem get_any (A : Option Addr) (len cap : Nat) (slot : Int) (p : List UInt8) (w : World) (hlen : p.length = len) (hA : Bytes w A p) (hcap : len ≤ cap) (hcm : cap ≤ maxLen) :
    Calls Try.prog 11 #[.slice A len cap, .int .i64 slot] w (GotP p slot w) := by
  obtain ⟨n, hn⟩ : ∃ n, (recs p).length = n := ⟨_, rfl⟩
  refine (callsIn_wide (n := 5)).1 ?_
  have hro : (Fence.wide).round = none := rfl
  refine callsIn_of_wp_marks Try.func11 rfl trivial ?_ hro
  simp only [Try.ntmps11, List.size_toArray, List.length_cons, List.length_nil, Nat.reduceAdd, Nat.reduceSub, Array.replicate_succ, Array.replicate_zero, List.push_toArray, List.append_toArray, List.nil_append, List.cons_append]
  gi_wp2_with fail
  refine ⟨trivial, ?_⟩
  refine (callsIn_wide.2 (each_any _ _ _ _)).mono ?_
  rintro e w' ⟨rfl, rfl⟩
  gi_wp2_with fail
  obtain ⟨ws, hws⟩ : ∃ ws, ((((w.alloc (.cells #[.int .i64 slot] 3)).alloc (.cells #[.slice none 0 0] 22)).alloc (.cells #[.bool false] 4)).alloc (.cells #[.slice A len cap] 22)) = ws := ⟨_, rfl⟩
  have hV0 : Vars w (GetV slot (.slice none 0 0) false) ws := by
    rw [← hws]
    refine ⟨fun i t v hi => ?_, (((((Below.refl _ w).alloc (Nat.le_refl _) _).alloc (by simp) _).alloc (by simp; omega) _).alloc (by simp; omega) _), by simp [GetV]⟩
    rcases i with _ | _ | _ | i
    · cases hi; exact (((Blk.new w _ _).alloc _).alloc _).alloc _
    · cases hi
      have := Blk.new (w.alloc (.cells #[.int .i64 slot] 3)) 22 #[.slice none 0 0]
      rw [World.size_alloc] at this
      exact (this.alloc _).alloc _
    · cases hi
      have := Blk.new ((w.alloc (.cells #[.int .i64 slot] 3)).alloc (.cells #[.slice none 0 0] 22)) 4 #[.bool false]
      rw [World.size_alloc, World.size_alloc] at this
      exact this.alloc _
    · simp [GetV] at hi
  have bP : Blk ws (w.heap.size + 3) 22 #[.slice A len cap] := by
    have := Blk.new (((w.alloc (.cells #[.int .i64 slot] 3)).alloc (.cells #[.slice none 0 0] 22)).alloc (.cells #[.bool false] 4)) 22 #[.slice A len cap]
    rw [World.size_alloc, World.size_alloc, World.size_alloc] at this
    rw [← hws]; exact this
  have hsz : ws.heap.size = w.heap.size + 4 := by rw [← hws]; simp
  have hE0 : EInv (w.heap.size + 3) A len cap p ws := ⟨bP.cell 0, hA.below hV0.bel⟩
  rw [hws]
  clear hws
  have HOK : Hid (0 < n → Ok p) := Lib.hid (fun h0 => by
    by_cases e : Ok p
    · exact e
    · rw [recs_no e] at hn; simp at hn; omega)
  have HA := Lib.hid (And.intro hlen (And.intro hcap hcm))
  have HN := Lib.hid hn
  have HPE := Lib.hid (fun h0 : 0 < n => hA.blk_lt (HOK.out h0).ne)
  have hst := each1_stops 4 (by omega) _ A len cap n p hlen hcap hcm hn ws hE0
  clear hlen hcap hcm hn
  refine wpIn_rangeFunc_ownG hro (by omega) (gf := 39) (lb := #[.pointer (some ⟨w.heap.size + 3, 0, none⟩)]) rfl trivial (enters_of Try.func39 (by kernel_rfl) rfl)
    hst einv_t (fun W l o o' _ h hc _ => einv_b W l o o' h hc) (Below.refl _ _) (fun _ => rfl)
    (fun (pre : List (Slot n)) W => GetI p slot w pre W)
    (fun c (pre : List (Slot n)) W => GetX p slot w c pre W)
    (fun s W W' row hs hg hr => ⟨hs.1, hs.2.grown hg (fun r e => ⟨by have := (hr r e).1; simp [GetV]; omega, (hr r e).2⟩)⟩)
    (fun c s W W' row hs hg hr => by
      obtain ⟨e, init, x, g, k, h1, h2, h3, h4, h5, h6⟩ := hs
      refine ⟨e, init, x, g, k, h1, h2, h3, h4.grown hg (fun r e => ⟨by have := (hr r e).1; simp [GetV]; omega, (hr r e).2⟩), h5.frame hg.size (hg.block g h5.lt fun e => ?_), h6⟩
      obtain ⟨_, o, ho, hc⟩ := hr g e.symm
      obtain ⟨j, hj⟩ : ∃ j, (recAt p x)[0]? = some j := ⟨_, List.getElem?_eq_getElem (by omega)⟩
      have := h5.holds 0 j hj
      simp only [World.cell?, ho] at this
      cases o <;> simp_all [Obj.isCells])
    ⟨fun x hx => by simp at hx, hV0⟩
    (fun x => { tmps := #[.slice A len cap, .int .i64 slot, undef, .pointer (some ⟨w.heap.size, 0, none⟩), .pointer (some ⟨w.heap.size + 1, 0, none⟩), .pointer (some ⟨w.heap.size + 2, 0, none⟩), .int .i64 (x.1 : Int), yv A cap p x.1, .slice A len cap, .func (.func 39) #[] #[.pointer (some ⟨w.heap.size + 3, 0, none⟩)], .int .i64 (x.1 : Int), yv A cap p x.1, undef, undef, undef, undef, undef, undef, undef, undef, undef, undef], defers := [] }) ?assign ?body ?done ?stop
  case assign =>
    intro l x W K hK
    dsimp only [epair]
    gi_wp2
    exact hK
  case body =>
    rintro l pre x W ⟨hne, hI⟩ hlp
    have hn0 : 0 < n := by have := x.2; omega
    have hok := HOK.out hn0
    have hxc : x.1 < cnt p := by rw [← recs_length hok, HN.out]; exact x.2
    have hrl : (recAt p x).length = lonK p x.1 := hok.rec_len hxc
    have hsec := yv_sec hok HA.out.1 HA.out.2.1 HA.out.2.2 (hA.below hI.bel) hxc
    have hk0 := (hI.b 0 _ _ rfl).cell 0
    have k1 := (hI.b 1 _ _ rfl).cell 0
    have f1 := (hI.b 1 _ _ rfl).frozen 0
    have k2 := (hI.b 2 _ _ rfl).cell 0
    have f2 := (hI.b 2 _ _ rfl).frozen 0
    rw [Nat.add_zero] at hk0
    simp only [List.getElem?_toArray, List.getElem?_cons_zero] at hk0 k1 k2
    obtain ⟨b, off, rfl, hbl⟩ := hA.ex hok.ne
    have hyv : yv (some ⟨b, off, none⟩) cap p x.1 = .slice (some ⟨b, yo off (atK p x.1) cap, none⟩) (lonK p x.1) (cap - atK p x.1) := rfl
    obtain ⟨o, ho⟩ : ∃ o, yo off (atK p x.1) cap = o := ⟨_, rfl⟩
    obtain ⟨C, hC⟩ : ∃ C, cap - atK p x.1 = C := ⟨_, rfl⟩
    obtain ⟨L, hL⟩ : ∃ L, lonK p x.1 = L := ⟨_, rfl⟩
    rw [ho, hC, hL] at hyv
    rw [hL] at hrl
    rw [hyv] at hsec
    rw [hyv]
    have hlon : L < 256 := by
      rw [← hL]; unfold lonK; exact UInt8.toNat_lt _
    by_cases hx : (x.1 : Int) = slot
    · have d1 : ((x.1 : Int) == slot) = true := by simpa using hx
      by_cases h0 : 0 < L
      · have d2 : decide ((0 : Int) < (L : Int)) = true := by simpa using h0
        obtain ⟨A', c', e1, _, _, e4, _⟩ := hsec
        injection e1 with e1 e2 e3
        clear e2 e3
        subst e1
        have hcl := clone_any b o L C (recAt p x) W hrl h0 (by omega) e4
        have HV := Lib.hid hI
        have HCL := Lib.hid hcl
        have HNE := Lib.hid hne
        have HRL := Lib.hid hrl
        have HX := Lib.hid hx
        clear hcl hI hne e4 hyv ho hC hL hrl hok hx k1 k2 f1 f2
        gi_wp2_with fail
        refine ⟨trivial, ?_⟩
        refine (CallsIn.inRound l (callsIn_wide.2 HCL.out)).mono ?_
        rintro e w5 ⟨q, c, rfl, hrw, hq, hb5⟩
        have hV5 := HV.out.below hb5
        have k1 := (hV5.b 1 _ _ rfl).cell 0
        have f1 := (hV5.b 1 _ _ rfl).frozen 0
        simp only [List.getElem?_toArray, List.getElem?_cons_zero] at k1
        have hV6 := hV5.set_ 1 _ _ (.slice (some ⟨q, 0, none⟩) L c) rfl
        have k2 := (hV6.b 2 _ _ rfl).cell 0
        have f2 := (hV6.b 2 _ _ rfl).frozen 0
        simp only [List.getElem?_toArray, List.getElem?_cons_zero] at k2
        have hV7 := hV6.set_ 2 _ _ (.bool true) rfl
        have hwsz := HV.out.sz
        simp only [GetV, List.length_cons, List.length_nil] at hwsz
        have hrw7 : Rw ((w5.setCell ⟨w.heap.size + 1, 0, none⟩ (.slice (some ⟨q, 0, none⟩) L c)).setCell ⟨w.heap.size + 2, 0, none⟩ (.bool true)) q L c (recAt p x) :=
          hrw.frame (by simp [World.setCell]) ((Below.heap_setCell _ ⟨w.heap.size + 2, 0, none⟩ _ _ (by show q ≠ w.heap.size + 2; omega)).trans (Below.heap_setCell _ ⟨w.heap.size + 1, 0, none⟩ _ _ (by show q ≠ w.heap.size + 1; omega)))
        have hkk : KeepsOthers W w5 := KeepsOthers.of_grownBy (row := none) ⟨hb5.os, hb5.tape, hb5.output, hb5.size, fun k hk _ => hb5.block k hk⟩ (fun j o hj => by cases hj)
        have HFIN : Hid (KeepsFrom ws.heap.size W ((w5.setCell ⟨w.heap.size + 1, 0, none⟩ (.slice (some ⟨q, 0, none⟩) L c)).setCell ⟨w.heap.size + 2, 0, none⟩ (.bool true)) ∧ GetX p slot w .ret (pre ++ [x]) ((w5.setCell ⟨w.heap.size + 1, 0, none⟩ (.slice (some ⟨q, 0, none⟩) L c)).setCell ⟨w.heap.size + 2, 0, none⟩ (.bool true))) :=
          Lib.hid ⟨((hkk.trans (KeepsOthers.setCell _ _ _)).trans (KeepsOthers.setCell _ _ _)).from _, rfl, pre, x, q, c, rfl, HX.out, by rw [HRL.out]; omega, by rw [HRL.out]; exact hV7, by rw [HRL.out]; exact hrw7, by omega⟩
        clear hV5 hV6 hV7 hrw hrw7 hkk hb5 hq
        gi_wp2_with fail
        exact HFIN.out
      · have d2 : decide ((0 : Int) < (L : Int)) = false := by simp; omega
        have HFIN : Hid (KeepsFrom ws.heap.size W W ∧ (EInv (w.heap.size + 3) (some ⟨b, off, none⟩) len cap p W → EInv (w.heap.size + 3) (some ⟨b, off, none⟩) len cap p W) ∧ GetI p slot w (pre ++ [x]) W) :=
          Lib.hid ⟨KeepsFrom.refl _ _, id, fun y hy he => by
            rcases List.mem_append.1 hy with hy | hy
            · exact hne y hy he
            · rw [List.mem_singleton.1 hy, hrl]; omega, hI⟩
        clear hI hne hyv ho hC hL hrl hok hx k1 k2 f1 f2 hsec
        gi_wp2
        exact HFIN.out
    · have d1 : ((x.1 : Int) == slot) = false := by simpa using hx
      have HFIN : Hid (KeepsFrom ws.heap.size W W ∧ (EInv (w.heap.size + 3) (some ⟨b, off, none⟩) len cap p W → EInv (w.heap.size + 3) (some ⟨b, off, none⟩) len cap p W) ∧ GetI p slot w (pre ++ [x]) W) :=
        Lib.hid ⟨KeepsFrom.refl _ _, id, fun y hy he => by
          rcases List.mem_append.1 hy with hy | hy
          · exact hne y hy he
          · rw [List.mem_singleton.1 hy] at he; exact absurd he hx, hI⟩
      clear hI hne hyv ho hC hL hrl hok hx k1 k2 f1 f2 hsec
      gi_wp2
      exact HFIN.out
  case done =>
    rintro D ys W hD hS ⟨hne, hI⟩ hK
    have hno : gotR p slot = none := gotR_none fun k r hr hk => by
      have hm : ys.map (recAt p) = recs p := come_recs HN.out hS
      have hkn : k < n := by rw [← HN.out]; exact (List.getElem?_eq_some_iff.1 hr).1
      have hyl : k < ys.length := by rw [hS.length]; exact hkn
      have e := congrArg (fun l => l[k]?) hS
      simp only [List.getElem?_map, List.getElem?_range hkn, List.getElem?_eq_getElem hyl, Option.map_some] at e
      injection e with e
      have := hne ys[k] (List.getElem_mem hyl) (by rw [e]; exact hk)
      rw [← hm, List.getElem?_map, List.getElem?_eq_getElem hyl] at hr
      simp only [Option.map_some, Option.some.injEq] at hr
      rw [← hr]; exact this
    have k1 := (hI.b 1 _ _ rfl).cell 0
    have f1 := (hI.b 1 _ _ rfl).frozen 0
    have hV6 := hI.set_ 1 _ _ (.slice none 0 0) rfl
    have k2 := (hV6.b 2 _ _ rfl).cell 0
    have f2 := (hV6.b 2 _ _ rfl).frozen 0
    simp only [List.getElem?_toArray, List.getElem?_cons_zero] at k1 k2
    have hK2 := far2 (a := w.heap.size + 1) (b := w.heap.size + 2) (.slice none 0 0) (.bool false) hK (by omega) (by omega)
    have HF := Lib.hid ((hV6.set_ 2 _ _ (.bool false) rfl).fin (by simp [GetV]; omega) hK2)
    have HNO := Lib.hid hno
    clear hV6 hI hne hno
    gi_wp2
    refine ⟨by simp, .inl ⟨_, _, rfl, run_takeDeferred hK2, ?_⟩⟩
    have g1 := (HF.out.b 1 _ _ rfl).cell 0
    have g2 := (HF.out.b 2 _ _ rfl).cell 0
    simp only [List.getElem?_toArray, List.getElem?_cons_zero] at g1 g2
    exact ⟨.tuple #[.slice none 0 0, .bool false], by simp [results, Try.results11, go_sem, g1, g2], .inl ⟨HNO.out, rfl, HF.out.bel⟩⟩
  case stop =>
    rintro D c pre W hD hS ⟨rfl, init, x, g, k, rfl, hx, hr0, hV, hrw, hg⟩ hK
    obtain ⟨hc1, hxi⟩ := come_last hS
    have hok := HOK.out (by have := x.2; omega)
    have hgot : gotR p slot = some (recAt p x) := gotR_some (hok.rec_get (k := x.1) (by rw [← recs_length hok, HN.out]; exact x.2)) hx hr0
    have HF := Lib.hid (hV.fin (by simp [GetV]; omega) hK)
    have hne : D ≠ g := fun e => by
      obtain ⟨j, hj⟩ : ∃ j, (recAt p x)[0]? = some j := ⟨_, List.getElem?_eq_getElem (by omega)⟩
      have := hrw.holds 0 j hj
      rw [← e] at this
      simp [World.cell?, hK] at this
    have HRW := Lib.hid (hrw.frame (w' := W.putObj D (.deferred none)) (by simp) ((grownBy_putObj' W D (.deferred none)).block g hrw.lt (fun e => by injection e with e; exact hne e.symm)))
    have HGOT := Lib.hid hgot
    clear hV hrw hgot hok hx hr0 hc1 hxi
    gi_wp2
    refine ⟨by simp, .inl ⟨_, _, rfl, run_takeDeferred hK, ?_⟩⟩
    have g1 := (HF.out.b 1 _ _ rfl).cell 0
    have g2 := (HF.out.b 2 _ _ rfl).cell 0
    simp only [List.getElem?_toArray, List.getElem?_cons_zero] at g1 g2
    exact ⟨.tuple #[.slice (some ⟨g, 0, none⟩) (recAt p x).length k, .bool true], by simp [results, Try.results11, go_sem, g1, g2], .inr ⟨_, g, k, HGOT.out, rfl, HRW.out, by omega, HF.out.bel⟩⟩
end Go.Proofs.Ytipjokbkgcepbaa
