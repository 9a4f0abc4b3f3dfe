/- cache: all of a cache in memory; Held. -/
import Derived.Test.YtiemfhncadcemaaCc
import Derived.Maps.RangeWalk
namespace Go.Proofs.Ytiemfhncadcemaa
open Go.RowKit Dsk

/-- The step of a range over a map of pointers. -/
theorem next_ptr (w : World) {ops : Array Oper} {rest : List Oper} {o : Oper} {a : Act} {Q : Exit → Act → World → Prop} (hg : o.guard = none) (it : Operand) (hop : o.op = Op.next it false) (S : Int → Option Nat)
    (b r n : Nat) (D : DataW Unit) (left : Lit → Bool) (cnt : Nat) (hS : ∀ i : Int, (Lit.int .i64 i).wf = true → D.atKey (.int .i64 i) (refD none) = refD (S i) ∧ Maps.has D (.int .i64 i) = (S i).isSome) (hsub : ∀ z, left z = true → Maps.has D z = true)
    (hit : a.eval it = .pointer (some ⟨r, 0, none⟩)) (h : w.ranges Try.prog 3 ptrR b r n D left cnt)
    (hDone : cnt = 0 → (∀ kl, left kl = false) → wpList Try.prog ops Q rest (a.put o.dst (.tuple #[.bool false])) w)
    (hMore : ∀ (x : Int) (f : Nat) (w' : World) (cnt' : Nat), (Lit.int .i64 x).wf = true → left (.int .i64 x) = true → S x = some f → w'.ranges Try.prog 3 ptrR b r n D (fun z => left z && !z.sameKey (.int .i64 x)) cnt' → cnt' < cnt →
      w.grownBy w' (some r) → w'.heap.size = w.heap.size → (Instr.entry (.pointer (some ⟨r, 0, none⟩))).run Try.prog w' = .ok (.tuple #[.int .i64 x, .pointer (some ⟨f, 0, none⟩)]) w' → wpList Try.prog ops Q rest (a.put o.dst (.tuple #[.bool true, .int .i64 x, .pointer (some ⟨f, 0, none⟩)])) w') :
    wpList Try.prog ops Q (o :: rest) a w :=
  wpList_next_ranges w hg it hop 3 (Maps.int_keyed Try.underlying3) ptrR (Value.int .i64) ptrV (fun key kl hkey => by obtain ⟨x, rfl, _⟩ := Maps.keyOf_int_inv Try.underlying3 hkey; exact ⟨x, rfl⟩)
    (fun v y hv => by
      unfold ptrR at hv
      split at hv
      · exact ⟨none, rfl⟩
      · exact ⟨some _, rfl⟩
      · cases hv)
    b r n D left cnt hit h hDone (fun x c kl y w' cnt' hkey hlk hv hat hrg hlt hgr hsz hen => by
      obtain ⟨x', ex, rfl, hwx⟩ := Maps.keyOf_int_inv Try.underlying3 hkey
      cases ex
      rw [ptrR_V] at hv
      injection hv with hv
      subst hv
      obtain ⟨h1, h2⟩ := hS x hwx
      rw [hat] at h1
      have hc : c = S x := refD_inj h1
      rw [hsub _ hlk] at h2
      cases c with
      | none => rw [← hc] at h2; cases h2
      | some f => exact hMore x f w' cnt' hwx hlk hc.symm hrg hlt hgr hsz hen)
structure Fr where
  s : Nat
  b : List UInt8
  dirty : Bool
  pins : Nat
  used : Nat
/-- Which block the frame of a sector has. -/
def atS (B : Nat → Nat) (L : List Fr) (i : Int) : Option Nat := (L.find? fun x => (x.s : Int) == i).map fun x => B x.s
/-- A cache in memory: its frames L, whose blocks are B's, their bytes in blocks of E. -/
structure Cm (w : World) (E : Nat → Prop) (g dg mb n : Nat) (B : Nat → Nat) (most time : Nat) (L : List Fr) : Prop where
  head : CHead w g dg mb most time
  map : PMap w mb n L.length (atS B L)
  frm : ∀ x ∈ L, ∃ v, Frm w (B x.s) v x.dirty x.pins x.used ∧ Sec w E v x.b
  secs : ∀ x ∈ L, x.b.length = 256 ∧ x.s < 1000000 ∧ x.pins < 1000000000
  nodup : L.Pairwise fun x y => x.s ≠ y.s
  inj : ∀ x ∈ L, ∀ y ∈ L, B x.s = B y.s → x.s = y.s
  apart : ∀ x ∈ L, B x.s ≠ g ∧ B x.s ≠ mb ∧ ¬ E (B x.s)
  e1 : ¬ E g
  e2 : ¬ E mb
  ne : g ≠ mb
theorem Cm.below {w w' : World} {E : Nat → Prop} {g dg mb n most time : Nat} {B : Nat → Nat} {L : List Fr} (h : Cm w E g dg mb n B most time L) (hb : Below w.heap.size w w') : Cm w' E g dg mb n B most time L :=
  ⟨Blk.below h.head hb (Blk.lt h.head), h.map.same (hb.block _ h.map.lt), fun x hx => by
    obtain ⟨v, h1, h2⟩ := h.frm x hx
    exact ⟨v, Blk.below h1 hb (Blk.lt h1), h2.same hb.size (fun k _ hk => hb.block k hk)⟩, h.secs, h.nodup, h.inj, h.apart, h.e1, h.e2, h.ne⟩
theorem atS_some {B : Nat → Nat} {L : List Fr} {i : Int} {f : Nat} (h : atS B L i = some f) : ∃ x ∈ L, (x.s : Int) = i ∧ B x.s = f := by
  unfold atS at h
  obtain ⟨x, hx, hf⟩ := Option.map_eq_some_iff.1 h
  exact ⟨x, List.mem_of_find?_eq_some hx, by have := List.find?_some hx; simpa using this, hf⟩
theorem same_int {a b : Int} : (Lit.int .i64 a).sameKey (.int .i64 b) = decide (a = b) := by
  by_cases h : a = b
  · subst h
    rw [WideAt.sameKey_self (by simp [WideAt.IsKeyLit])]
    simp
  · cases hh : (Lit.int .i64 a).sameKey (.int .i64 b) with
    | false => simp [h]
    | true =>
      have := WideAt.sameKey_eq hh
      simp at this
      exact absurd this h
/-- How many frames of which p holds have come. -/
def came (p : Fr → Bool) (left : Lit → Bool) (L : List Fr) : Nat := L.countP fun x => p x && !left (.int .i64 (x.s : Int))
theorem came_far (p : Fr → Bool) (left : Lit → Bool) (s : Nat) : ∀ L : List Fr, (∀ x ∈ L, x.s ≠ s) → came p (fun z => left z && !z.sameKey (.int .i64 (s : Int))) L = came p left L
  | [], _ => rfl
  | y :: L, h => by
    have hy := h y (List.mem_cons_self ..)
    have ih := came_far p left s L (fun x hx => h x (List.mem_cons_of_mem _ hx))
    unfold came at ih ⊢
    rw [List.countP_cons, List.countP_cons, ih]
    have : (Lit.int .i64 (y.s : Int)).sameKey (.int .i64 (s : Int)) = false := by rw [same_int]; simp; omega
    simp [this]
theorem came_step (p : Fr → Bool) (left : Lit → Bool) (x0 : Fr) : ∀ L : List Fr, L.Pairwise (fun x y => x.s ≠ y.s) → x0 ∈ L → left (.int .i64 (x0.s : Int)) = true →
    came p (fun z => left z && !z.sameKey (.int .i64 (x0.s : Int))) L = came p left L + (if p x0 then 1 else 0)
  | [], _, h, _ => by cases h
  | y :: L, hp, h, hl => by
    obtain ⟨h1, h2⟩ := List.pairwise_cons.1 hp
    rcases List.mem_cons.1 h with rfl | h
    · have ih := came_far p left x0.s L (fun x hx => (h1 x hx).symm)
      unfold came at ih ⊢
      rw [List.countP_cons, List.countP_cons, ih]
      simp only [same_int, hl]
      cases p x0 <;> simp
    · have ih := came_step p left x0 L h2 h hl
      have hy := h1 x0 h
      have : (Lit.int .i64 (y.s : Int)).sameKey (.int .i64 (x0.s : Int)) = false := by rw [same_int]; simp; omega
      unfold came at ih ⊢
      rw [List.countP_cons, List.countP_cons, ih]
      simp only [this, Bool.not_false, Bool.and_true]
      omega
theorem came_all (p : Fr → Bool) (left : Lit → Bool) (L : List Fr) (h : ∀ z, left z = false) : came p left L = L.countP p := by
  unfold came
  congr 1
  funext x
  rw [h]; simp
theorem came_none (p : Fr → Bool) (left : Lit → Bool) (L : List Fr) (h : ∀ x ∈ L, left (.int .i64 (x.s : Int)) = true) : came p left L = 0 := by
  unfold came
  rw [List.countP_eq_zero]
  intro x hx
  rw [h x hx]; simp
set_option maxRecDepth 20000 in
set_option maxHeartbeats 1000000 in
theorem held_any (g dg mb n most time : Nat) (E : Nat → Prop) (B : Nat → Nat) (L : List Fr) (w : World) (h : Cm w E g dg mb n B most time L) (hl : L.length ≤ 1024) :
    Calls Try.prog 15 #[.pointer (some ⟨g, 0, none⟩)] w fun e w' => e = .returned (.tuple #[.int .i64 (L.length : Int), .int .i64 ((L.countP fun x => x.dirty : Nat) : Int), .int .i64 ((L.countP fun x => decide (0 < x.pins) : Nat) : Int)]) ∧ Below w.heap.size w w' := by
  obtain ⟨c0, c1, c2, c3, _⟩ := h.head.told
  obtain ⟨D, hown, hsz, hS⟩ := h.map
  have hglt := Blk.lt h.head
  have HH := Lib.hid h
  have HS := Lib.hid hS
  obtain ⟨l, hll⟩ : ∃ l, L.length = l := ⟨_, rfl⟩
  have HL := Lib.hid hll
  rw [hll]
  rw [hll] at hl
  clear h hS hsz hll
  go_enter Try.func15, Try.ntmps15
  go_wp2_with (first
    | (at_range; refine wpList_range_own _ rfl _ 63 rfl 3 68 (Maps.int_keyed Try.underlying3) Try.underlying63 _ mb n D rfl hown ?_; intro w0 hrg0 hg0 hs0)
    | go_in)
  go_frame
  go_loopw [3, 4, 6] (fun dv pv _ wr => ∃ (left : Lit → Bool) (cnt : Nat), wr.ranges Try.prog 3 ptrR mb w.heap.size n D left cnt ∧ dv = .int .i64 ((came (fun x => x.dirty) left L : Nat) : Int) ∧ pv = .int .i64 ((came (fun x => decide (0 < x.pins)) left L : Nat) : Int) ∧ Hid (∀ z, left z = true → Maps.has D z = true) ∧ Hid (Below w.heap.size w wr))
    (fun _ _ _ wr => wr.rangeLeft mb w.heap.size)
  case atStart =>
    have hall : ∀ x ∈ L, Maps.has D (.int .i64 (x.s : Int)) = true := fun x hx => by
      rw [(HS.out _ (WalkArith.wf_i64 (by have := (HH.out.secs x hx).2.1; omega))).2]
      unfold atS
      rw [Option.isSome_map, List.find?_isSome]
      exact ⟨x, hx, by simp⟩
    refine ⟨_, _, hrg0, by rw [came_none _ _ _ hall]; rfl, by rw [came_none _ _ _ hall]; rfl, Lib.hid (fun z h => h), Lib.hid ?_⟩
    exact ⟨hg0.os, hg0.tape, hg0.output, hg0.size, fun k hk => hg0.block k hk (by simp)⟩
  case round =>
    obtain ⟨left, cnt, hrg, rfl, rfl, HSUB, HB⟩ := hrel
    have HC := Lib.hid (HH.out.below HB.out)
    obtain ⟨c0, c1, c2, c3, _⟩ := HC.out.head.told
    obtain ⟨dn, hdn⟩ : ∃ dn, came (fun x => x.dirty) left L = dn := ⟨_, rfl⟩
    obtain ⟨pn, hpn⟩ : ∃ pn, came (fun x => decide (0 < x.pins)) left L = pn := ⟨_, rfl⟩
    have HDN := Lib.hid hdn
    have HPN := Lib.hid hpn
    have hdl : dn ≤ 1024 := by rw [← hdn]; exact Nat.le_trans List.countP_le_length (by rw [HL.out]; exact hl)
    have hpl : pn ≤ 1024 := by rw [← hpn]; exact Nat.le_trans List.countP_le_length (by rw [HL.out]; exact hl)
    rw [hdn, hpn]
    have hlen := HC.out.map.len
    rw [HL.out] at hlen
    clear hdn hpn
    go_wp2_with (first
      | (at_next; refine next_ptr _ rfl _ rfl (atS B L) mb w.heap.size n D left cnt HS.out HSUB.out rfl hrg ?_ ?_)
      | go_in)
    · intro hc0 hl0
      have e1 := came_all (fun x => x.dirty) left L hl0
      have e2 := came_all (fun x => decide (0 < x.pins)) left L hl0
      rw [HDN.out] at e1
      rw [HPN.out] at e2
      have HE := Lib.hid (And.intro e1 e2)
      clear hrg e1 e2
      go_wp2_with fail
      go_ret3
      rw [← HE.out.1, ← HE.out.2]
      exact ⟨rfl, HB.out⟩
    · intro x f w1 cnt1 hwx hlx hfx hrg1 hlt hg1 hs1 hen
      obtain ⟨y, hy, rfl, rfl⟩ := atS_some hfx
      have hb1 : Below w.heap.size w w1 := ⟨hg1.os.trans HB.out.os, hg1.tape.trans HB.out.tape, hg1.output.trans HB.out.output, Nat.le_trans HB.out.size hg1.size, fun k hk => (hg1.block k (Nat.lt_of_lt_of_le hk HB.out.size) (by simp; omega)).trans (HB.out.block k hk)⟩
      have HB1 := Lib.hid hb1
      have HC1 := Lib.hid (HH.out.below hb1)
      obtain ⟨v, hf, _⟩ := HC1.out.frm y hy
      obtain ⟨f0, f1, f2, f3, _⟩ := hf.told
      have s1 := came_step (fun x => x.dirty) left y L HH.out.nodup hy hlx
      have s2 := came_step (fun x => decide (0 < x.pins)) left y L HH.out.nodup hy hlx
      rw [HDN.out] at s1
      rw [HPN.out] at s2
      have HSUB1 : Hid (∀ z, (left z && !z.sameKey (.int .i64 (y.s : Int))) = true → Maps.has D z = true) := Lib.hid (fun z hz => HSUB.out z (by
        cases hh : left z with
        | true => rfl
        | false => rw [hh] at hz; cases hz))
      obtain ⟨bf, hbf⟩ : ∃ bf, B y.s = bf := ⟨_, rfl⟩
      obtain ⟨dd, hdd⟩ : ∃ dd, y.dirty = dd := ⟨_, rfl⟩
      obtain ⟨pp, hpp⟩ : ∃ pp, y.pins = pp := ⟨_, rfl⟩
      rw [hbf, hdd] at f1
      rw [hbf, hpp] at f2
      rw [hbf] at f0 f3 hen ⊢
      rw [hdd] at s1
      rw [hpp] at s2
      have HS1 := Lib.hid s1
      have HS2 := Lib.hid s2
      have HR := Lib.hid hrg
      have HR1 := Lib.hid hrg1
      clear hfx hy hwx hlx hg1 hs1 hb1 hf hbf hdd hpp s1 s2 hrg c0 c1 c2 c3 hlen
      by_cases hp : 0 < pp
      · have hpd : decide ((pp : Int) > 0) = true := by simp; omega
        have hpd2 : decide (0 < pp) = true := by simpa using hp
        rw [hpd2] at HS2
        clear hp
        cases dd with
        | true =>
          go_wp2_with fail
          go_roundw
          case rel => exact ⟨_, cnt1, HR1.out, by rw [HS1.out]; go_num, by rw [HS2.out]; go_num, HSUB1, HB1⟩
          case measure => rw [HR1.out.left_eq, HR.out.left_eq]; exact hlt
        | false =>
          go_wp2_with fail
          go_roundw
          case rel => exact ⟨_, cnt1, HR1.out, by rw [HS1.out]; go_num, by rw [HS2.out]; go_num, HSUB1, HB1⟩
          case measure => rw [HR1.out.left_eq, HR.out.left_eq]; exact hlt
      · have hpd : decide ((pp : Int) > 0) = false := by simp; omega
        have hpd2 : decide (0 < pp) = false := by simpa using hp
        rw [hpd2] at HS2
        clear hp
        cases dd with
        | true =>
          go_wp2_with fail
          go_roundw
          case rel => exact ⟨_, cnt1, HR1.out, by rw [HS1.out]; go_num, by rw [HS2.out]; go_num, HSUB1, HB1⟩
          case measure => rw [HR1.out.left_eq, HR.out.left_eq]; exact hlt
        | false =>
          go_wp2_with fail
          go_roundw
          case rel => exact ⟨_, cnt1, HR1.out, by rw [HS1.out]; go_num, by rw [HS2.out]; go_num, HSUB1, HB1⟩
          case measure => rw [HR1.out.left_eq, HR.out.left_eq]; exact hlt
theorem held_nil (w : World) : Calls Try.prog 15 #[.pointer none] w fun e w' => e = .returned (.tuple #[.int .i64 0, .int .i64 0, .int .i64 0]) ∧ w = w' := by
  go_enter Try.func15, Try.ntmps15
  go_wp2_with fail
  go_ret3
  exact ⟨rfl, rfl⟩
end Go.Proofs.Ytiemfhncadcemaa
