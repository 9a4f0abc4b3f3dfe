/- Contracts, part BE. -/
import Derived.Test.YtimkiifcmegfeaaBN
import Derived.Test.YtimkiifcmegfeaaBA
import Derived.Test.YtimkiifcmegfeaaBP
/- code: Read (written by cdread.py). -/
namespace Go.Proofs.Ytimkiifcmegfeaa
open Go.RowKit
set_option linter.unusedVariables false
set_option linter.unusedSimpArgs false
attribute [local go_sem] Oper.semAt_some
theorem leaves_congr {P : Program} {fn : Func} {t1 t2 : Array Value} {R : Ending → World → Prop} (h : results fn t1 = results fn t2) : ∀ (ds : List Deferred) (u : FrameMode) (w : World), Leaves P fn t1 R ds u w → Leaves P fn t2 R ds u w := by
  intro ds
  induction ds with
  | nil =>
    intro u w k
    cases u with
    | run => exact k
    | returning =>
      obtain ⟨v, h1, h2⟩ := k
      exact ⟨v, by rw [← h]; exact h1, h2⟩
    | panicking c => exact k
  | cons d ds ih =>
    intro u w k
    obtain ⟨h1, fv, cap, f, args, h2, h3, h4⟩ := k
    refine ⟨h1, fv, cap, f, args, h2, h3, h4.mono fun e u' w' q => ?_⟩
    cases e with
    | returned v => exact ih _ _ q
    | panicked c => exact ih _ _ q
    | outgrown => exact q
theorem leaves14 {R : Ending → World → Prop} {ds : List Deferred} {u : FrameMode} {w : World} (t : Array Value) (k : Nat) (v : Value) (hk : k ≠ 2 ∧ k ≠ 3) (h : Leaves Try.prog Try.f14 (t.setIfInBounds k v) R ds u w) : Leaves Try.prog Try.f14 t R ds u w := by
  refine leaves_congr ?_ ds u w h
  have e2 : (t.setIfInBounds k v).getD 2 undef = t.getD 2 undef := by simp [Array.getD_eq_getD_getElem?, Array.getElem?_setIfInBounds, hk.1]
  have e3 : (t.setIfInBounds k v).getD 3 undef = t.getD 3 undef := by simp [Array.getD_eq_getD_getElem?, Array.getElem?_setIfInBounds, hk.2]
  have g2 : (t.setIfInBounds k v)[2]? = t[2]? := by simp [Array.getElem?_setIfInBounds, hk.1]
  have g3 : (t.setIfInBounds k v)[3]? = t[3]? := by simp [Array.getElem?_setIfInBounds, hk.2]
  simp [results, Try.results14, e2, e3, g2, g3]
theorem end_q {w : World} {qc qe rb B : Nat} {A : Option Addr} {len cap : Nat} {bs : List UInt8} {a : Nat} {Af Ar : Option Addr} {cf cr : Nat} {fs : List Fe} {rs : List (List UInt8 × List UInt8)} {X : Nat → Prop} {wx : World} (h : RJ w qc qe rb B A len cap bs a (.slice Af fs.length cf) (.slice Ar rs.length cr) fs rs X wx) :
    ((wx.setCell ⟨qc, 0, none⟩ (.slice Af fs.length cf)).cell? ⟨qc, 1, none⟩ = some (.slice Ar rs.length cr) ∧ (wx.setCell ⟨qc, 0, none⟩ (.slice Af fs.length cf)).frozen? ⟨qc, 1, none⟩ = false ∧
    ((wx.setCell ⟨qc, 0, none⟩ (.slice Af fs.length cf)).setCell ⟨qc, 1, none⟩ (.slice Ar rs.length cr)).cell? ⟨qe, 0, none⟩ = some (.int .i64 0) ∧ ((wx.setCell ⟨qc, 0, none⟩ (.slice Af fs.length cf)).setCell ⟨qc, 1, none⟩ (.slice Ar rs.length cr)).frozen? ⟨qe, 0, none⟩ = false) ∧
    (((wx.setCell ⟨qc, 0, none⟩ (.slice Af fs.length cf)).setCell ⟨qc, 1, none⟩ (.slice Ar rs.length cr)).setCell ⟨qe, 0, none⟩ (.int .i64 0)).cell? ⟨qc, 0, none⟩ = some (.slice Af fs.length cf) ∧
    (((wx.setCell ⟨qc, 0, none⟩ (.slice Af fs.length cf)).setCell ⟨qc, 1, none⟩ (.slice Ar rs.length cr)).setCell ⟨qe, 0, none⟩ (.int .i64 0)).cell? ⟨qc, 1, none⟩ = some (.slice Ar rs.length cr) ∧
    (((wx.setCell ⟨qc, 0, none⟩ (.slice Af fs.length cf)).setCell ⟨qc, 1, none⟩ (.slice Ar rs.length cr)).setCell ⟨qe, 0, none⟩ (.int .i64 0)).cell? ⟨qe, 0, none⟩ = some (.int .i64 0) ∧
    Below w.heap.size w (((wx.setCell ⟨qc, 0, none⟩ (.slice Af fs.length cf)).setCell ⟨qc, 1, none⟩ (.slice Ar rs.length cr)).setCell ⟨qe, 0, none⟩ (.int .i64 0)) ∧
    Cl.At (fun b => w.heap.size ≤ b) (((wx.setCell ⟨qc, 0, none⟩ (.slice Af fs.length cf)).setCell ⟨qc, 1, none⟩ (.slice Ar rs.length cr)).setCell ⟨qe, 0, none⟩ (.int .i64 0)) ⟨fs, Af, cf, rs, Ar, cr⟩ := by
  have hl := h.lt
  have b0 := Blk.set_ h.c 0 (.slice Af fs.length cf)
  have b1 := Blk.set_ b0 1 (.slice Ar rs.length cr)
  have b2 := b1.far (p := ⟨qe, 0, none⟩) (by show qc ≠ qe; omega) (.int .i64 0)
  have e1 := (h.e.far (p := ⟨qc, 0, none⟩) (by show qe ≠ qc; omega) (.slice Af fs.length cf)).far (p := ⟨qc, 1, none⟩) (by show qe ≠ qc; omega) (.slice Ar rs.length cr)
  have e2 := Blk.set_ e1 0 (.int .i64 0)
  have ho : Off (fun k => k = qc ∨ k = qe) wx (((wx.setCell ⟨qc, 0, none⟩ (.slice Af fs.length cf)).setCell ⟨qc, 1, none⟩ (.slice Ar rs.length cr)).setCell ⟨qe, 0, none⟩ (.int .i64 0)) :=
    (((Off.setc wx qc 0 _).mono fun k _ e => .inl e).trans ((Off.setc _ qc 1 _).mono fun k _ e => .inl e)).trans ((Off.setc _ qe 0 _).mono fun k _ e => .inr e)
  have hcap : ∀ {e : TypeId} {s : Nat} {A : Option Addr} {n c : Nat} {xs : List Value}, wx.ownsRow B e s (.slice A n c) n xs → n ≤ c ∧ c ≤ maxLen := fun {e s A n c xs} h => by
    rcases h.2 with ⟨e, e0⟩ | ⟨g, cap', cur, e, _, _, h3, h4, _⟩
    · injection e with e1 e2 e3
      subst e3
      exact ⟨by omega, Nat.zero_le _⟩
    · injection e with e1 e2 e3
      subst e3
      exact ⟨h3, h4⟩
  have hfr := row_own (cl := Fe.cells) h.fo rfl (fun _ => rfl) (fun m x j u hx hj => by
    rcases j with _ | j
    · rw [Nat.mul_one, Nat.add_zero, List.getElem?_map, hx]; exact hj
    · simp [Fe.cells] at hj)
  have hrr := row_own (cl := rtCells) h.ro rfl (fun _ => rfl) (fun m x j u hx hj => rtl_get rs m x j u hx hj)
  have hX : ∀ b : Nat, (B ≤ b) → ¬ (b = qc ∨ b = qe) := fun b hb => by rintro (e | e) <;> omega
  have F1 : FsAt (fun b => B ≤ b) wx Af fs := ⟨hfr.mono fun b _ hb => (h.fo.lt b hb).1, fun f hf => (h.ff f hf).mono fun b _ hb => (h.x b hb).2.1⟩
  have R1 : RsAt (fun b => B ≤ b) wx Ar rs := ⟨hrr.mono fun b _ hb => (h.ro.lt b hb).1, h.rk⟩
  exact ⟨⟨b0.cell 1, b0.frozen 1, e1.cell 0, e1.frozen 0⟩, b2.cell 0, b2.cell 1, e2.cell 0, below_set (below_set (below_set h.b _ _ _ (by show w.heap.size ≤ qc; omega)) _ _ _ (by show w.heap.size ≤ qc; omega)) _ _ _ (by show w.heap.size ≤ qe; omega), (F1.off ho hX).mono fun b _ hb => by show w.heap.size ≤ b; have : B ≤ b := hb; omega, (R1.off ho hX).mono fun b _ hb => by show w.heap.size ≤ b; have : B ≤ b := hb; omega, hcap h.fo, hcap h.ro⟩
theorem door_q {w : World} {qc qe rb B : Nat} {A : Option Addr} {len cap : Nat} {bs : List UInt8} {a : Nat} {fv rv : Value} {fs : List Fe} {rs : List (List UInt8 × List UInt8)} {X : Nat → Prop} {wx : World} (h : RJ w qc qe rb B A len cap bs a fv rv fs rs X wx) :
    (((wx.setCell ⟨qc, 0, none⟩ (.slice none 0 0)).setCell ⟨qc, 1, none⟩ (.slice none 0 0)).setCell ⟨qe, 0, none⟩ (.int .i64 8)).cell? ⟨qc, 0, none⟩ = some (.slice none 0 0) ∧
    (((wx.setCell ⟨qc, 0, none⟩ (.slice none 0 0)).setCell ⟨qc, 1, none⟩ (.slice none 0 0)).setCell ⟨qe, 0, none⟩ (.int .i64 8)).cell? ⟨qc, 1, none⟩ = some (.slice none 0 0) ∧
    (((wx.setCell ⟨qc, 0, none⟩ (.slice none 0 0)).setCell ⟨qc, 1, none⟩ (.slice none 0 0)).setCell ⟨qe, 0, none⟩ (.int .i64 8)).cell? ⟨qe, 0, none⟩ = some (.int .i64 8) ∧
    Below w.heap.size w (((wx.setCell ⟨qc, 0, none⟩ (.slice none 0 0)).setCell ⟨qc, 1, none⟩ (.slice none 0 0)).setCell ⟨qe, 0, none⟩ (.int .i64 8)) := by
  have hl := h.lt
  have b1 := (Blk.set_ (Blk.set_ h.c 0 (.slice none 0 0)) 1 (.slice none 0 0)).far (p := ⟨qe, 0, none⟩) (by show qc ≠ qe; omega) (.int .i64 8)
  have b2 := Blk.set_ ((h.e.far (p := ⟨qc, 0, none⟩) (by show qe ≠ qc; omega) (.slice none 0 0)).far (p := ⟨qc, 1, none⟩) (by show qe ≠ qc; omega) (.slice none 0 0)) 0 (.int .i64 8)
  exact ⟨b1.cell 0, b1.cell 1, b2.cell 0, below_set (below_set (below_set h.b _ _ _ (by show w.heap.size ≤ qc; omega)) _ _ _ (by show w.heap.size ≤ qc; omega)) _ _ _ (by show w.heap.size ≤ qe; omega)⟩
set_option maxRecDepth 20000 in
set_option maxHeartbeats 8000000 in
theorem read_any (A : Option Addr) (len cap : Nat) (bs : List UInt8) (w : World) (hl : bs.length = len) (hlx : len ≤ 1000000) (hA : Bytes w A bs) (hAw : ∀ p : Addr, A = some p → p.block < w.heap.size) :
    Calls Try.prog 14 #[.slice A len cap] w fun e w' => RdPost (readB bs) w e w' := by
  have hmf : ∀ (fn : Fn) (first cap : Array Value) (w : World), (Instr.makeFunc fn first cap).run Try.prog w = .ok (.func fn first cap) w := fun _ _ _ _ => rfl
  obtain ⟨R, hR⟩ : ∃ z, readB bs = z := ⟨_, rfl⟩
  rw [hR]
  have hJ : RJ w w.heap.size (w.heap.size + 1) (w.heap.size + 1 + 1) (w.heap.size + 1 + 1 + 1) A len cap bs 0 (.slice none 0 0) (.slice none 0 0) [] [] (fun _ => False) (((w.alloc (.cells #[.slice none 0 0, .slice none 0 0] 25)).alloc (.cells #[.int .i64 0] 31)).alloc (.cells #[.slice A len cap, .int .i64 0] 67)) := by
    obtain ⟨a, ha⟩ : ∃ V, w.alloc (.cells #[.slice none 0 0, .slice none 0 0] 25) = V := ⟨_, rfl⟩
    obtain ⟨b, hb⟩ : ∃ V, a.alloc (.cells #[.int .i64 0] 31) = V := ⟨_, rfl⟩
    obtain ⟨c, hc⟩ : ∃ V, b.alloc (.cells #[.slice A len cap, .int .i64 0] 67) = V := ⟨_, rfl⟩
    rw [ha, hb, hc]
    have k : ∀ (x y : World) (o : Obj), x.alloc o = y → Below x.heap.size x y ∧ y.heap.size = x.heap.size + 1 := fun x y o h => by subst h; exact ⟨(Below.refl _ _).alloc (Nat.le_refl _) _, by simp⟩
    have ka := k _ _ _ ha
    have kb := k _ _ _ hb
    have kc := k _ _ _ hc
    have Ba : Blk a w.heap.size 25 #[.slice none 0 0, .slice none 0 0] := by rw [← ha]; exact Blk.new _ _ _
    have Bb : Blk b (w.heap.size + 1) 31 #[.int .i64 0] := by rw [← hb, ← ka.2]; exact Blk.new _ _ _
    have Bc : Blk c (w.heap.size + 1 + 1) 67 #[.slice A len cap, .int .i64 0] := by rw [← hc, ← ka.2, ← kb.2]; exact Blk.new _ _ _
    have Ba2 := (Ba.below kb.1 Ba.lt).below kc.1 (Ba.below kb.1 Ba.lt).lt
    have Bb2 := Bb.below kc.1 Bb.lt
    have hbw := ka.1.trans ((kb.1.trans (kc.1.mono kb.1.size)).mono ka.1.size)
    exact ⟨⟨Bc, hA.below hbw, ⟨hl, by omega⟩, Nat.zero_le _, fun p hp => by have := hAw p hp; omega⟩, Ba2, Bb2, World.ownsRow_nil _ _ _ _, World.ownsRow_nil _ _ _ _, fun f hf => (by cases hf), fun f hf => (by cases hf), fun k hk => hk.elim, fun k hk => (by cases hk), by omega, hbw, hAw, Nat.le_refl _, Nat.le_refl _⟩
  obtain ⟨w3, hw3⟩ : ∃ V, (((w.alloc (.cells #[.slice none 0 0, .slice none 0 0] 25)).alloc (.cells #[.int .i64 0] 31)).alloc (.cells #[.slice A len cap, .int .i64 0] 67)) = V := ⟨_, rfl⟩
  rw [hw3] at hJ
  have HJI := Lib.hid (And.intro hJ hw3)
  have HI := Lib.hid (And.intro hR (And.intro hl hlx))
  clear hJ hw3 hR hA hAw hl
  go_enter_defers Try.func14, Try.ntmps14
  go_upto_region 3 with fail
  (try rw [HJI.out.2])
  obtain ⟨qc, hqc⟩ : ∃ z, w.heap.size = z := ⟨_, rfl⟩
  obtain ⟨qe, hqe⟩ : ∃ z, qc + 1 = z := ⟨_, rfl⟩
  obtain ⟨rb, hrb⟩ : ∃ z, qe + 1 = z := ⟨_, rfl⟩
  obtain ⟨B, hB⟩ : ∃ z, rb + 1 = z := ⟨_, rfl⟩
  have HJ : Hid (RJ w qc qe rb B A len cap bs 0 (.slice none 0 0) (.slice none 0 0) [] [] (fun _ => False) w3) := Lib.hid (by rw [← hB, ← hrb, ← hqe, ← hqc]; exact HJI.out.1)
  rw [hqc, hqe, hrb]
  clear HJI hqc hqe hrb hB
  go_wp2_with fail
  by_cases hle : 0 + 4 ≤ len
  case neg =>
    refine (number_no rb len cap 0 4 A bs w3 HJ.out.r (by omega) hle).mono ?_
    rintro e w4 ⟨rfl, hb4⟩
    have hJ4 := HJ.out.bel hb4
    have hz : R = none := by rw [← HI.out.1]; exact read_0 (by rw [HI.out.2.1]; omega)
    refine leaves_cons (f := 31) (args := #[.pointer (some ⟨qc, 0, none⟩), .pointer (some ⟨qe, 0, none⟩)]) (by simp) (by simp [go_sem]) ?_
    refine (rcatch_panicking qc qe _ _ 0 _ _ [] _ hJ4.c hJ4.e (by have := hJ4.lt; omega)).mono ?_
    rintro e u' w'' ⟨rfl, rfl, rfl⟩
    have hq := door_q hJ4
    obtain ⟨W9, hW9⟩ : ∃ V, ((World.setCell w4 ⟨qc, 0, none⟩ (.slice none 0 0)).setCell ⟨qc, 1, none⟩ (.slice none 0 0)).setCell ⟨qe, 0, none⟩ (.int .i64 8) = V := ⟨_, rfl⟩
    rw [hW9] at hq ⊢
    have d0 := hq.1
    have d1 := hq.2.1
    have d2 := hq.2.2.1
    have HD := Lib.hid hq.2.2.2
    clear hq hW9
    simp [Leaves, settle, results, Try.results14, go_sem, d0, d1, d2]
    exact RdPost.no hz HD.out rfl
  obtain ⟨n1, hn1⟩ : ∃ z, leN (fieldOf bs 0 4) = z := ⟨_, rfl⟩
  have hn1x : n1 < 4294967296 := by rw [← hn1]; exact numI4.2
  have hC := number_yes rb len cap 0 4 A bs w3 HJ.out.r (by decide) hle
  rw [numI4.1, hn1] at hC
  refine hC.mono ?_
  rintro e w4 ⟨rfl, hr4, ho4⟩
  have HJ4 : Hid (RJ w qc qe rb B A len cap bs 4 (.slice none 0 0) (.slice none 0 0) [] [] (fun _ => False) w4 ∧ kFs bs n1 4 [] = R) := Lib.hid ⟨HJ.out.rd ho4 hr4 (by omega), by rw [← HI.out.1, read_4 (by rw [HI.out.2.1]; omega), hn1]⟩
  clear hC hr4 ho4 hn1 hle HJ
  go_wp2_with fail
  go_loopw [12] (fun v12 wr => ∃ (i a : Nat) (Af : Option Addr) (cf : Nat) (fs : List Fe) (X : Nat → Prop), i ≤ n1 ∧ v12 = .int .i64 (i : Int) ∧ Hid (RJ w qc qe rb B A len cap bs a (.slice Af fs.length cf) (.slice none 0 0) fs [] X wr ∧ kFs bs (n1 - i) a (fs.map Fe.is) = R)) (fun v12 _ => n1 - (intOf v12).toNat)
  case atStart => exact ⟨0, 4, none, 0, [], _, Nat.zero_le _, rfl, HJ4⟩
  case round =>
    clear HJ4
    obtain ⟨i, a, Af, cf, fs, X, hi, rfl, HJ⟩ := hrel
    obtain ⟨w5, rfl⟩ : ∃ v, v = wr := ⟨_, rfl⟩
    by_cases hli : i < n1
    · have hd : decide ((i : Int) < (n1 : Int)) = true := by simpa using hli
      obtain ⟨k1, hk1⟩ : ∃ z, n1 - i = z + 1 := ⟨n1 - i - 1, by omega⟩
      go_wp2_with fail
      by_cases hle : a + 4 ≤ len
      case neg =>
        refine (number_no rb len cap a 4 A bs w5 HJ.out.1.r (by omega) hle).mono ?_
        rintro e w6 ⟨rfl, hb6⟩
        have hJ6 := HJ.out.1.bel hb6
        have hz : R = none := by rw [← HJ.out.2, hk1]; exact kFs_no _ _ _ (by rw [HI.out.2.1]; exact hle)
        refine leaves_cons (f := 31) (args := #[.pointer (some ⟨qc, 0, none⟩), .pointer (some ⟨qe, 0, none⟩)]) (by simp) (by simp [go_sem]) ?_
        refine (rcatch_panicking qc qe _ _ 0 _ _ [] _ hJ6.c hJ6.e (by have := hJ6.lt; omega)).mono ?_
        rintro e u' w'' ⟨rfl, rfl, rfl⟩
        have hq := door_q hJ6
        obtain ⟨W9, hW9⟩ : ∃ V, ((World.setCell w6 ⟨qc, 0, none⟩ (.slice none 0 0)).setCell ⟨qc, 1, none⟩ (.slice none 0 0)).setCell ⟨qe, 0, none⟩ (.int .i64 8) = V := ⟨_, rfl⟩
        rw [hW9] at hq ⊢
        have d0 := hq.1
        have d1 := hq.2.1
        have d2 := hq.2.2.1
        have HD := Lib.hid hq.2.2.2
        clear hq hW9
        simp [Leaves, settle, results, Try.results14, go_sem, d0, d1, d2]
        exact RdPost.no hz HD.out rfl
      obtain ⟨n2, hn2⟩ : ∃ z, leN (fieldOf bs a 4) = z := ⟨_, rfl⟩
      have hn2x : n2 < 4294967296 := by rw [← hn2]; exact numI4.2
      have hC := number_yes rb len cap a 4 A bs w5 HJ.out.1.r (by decide) hle
      rw [numI4.1, hn2] at hC
      refine hC.mono ?_
      rintro e w6 ⟨rfl, hr6, ho6⟩
      have HF0 := Lib.hid (show FJ B (a + 4) (.slice Af fs.length cf) (.slice none 0 0) X (.slice none 0 0) [] w6 from ⟨World.ownsRow_nil _ _ _ _, fun k hk => (by cases hk), fun j hj => (by cases hj), Nat.zero_le _⟩)
      have HJ6 : Hid (RJ w qc qe rb B A len cap bs (a + 4) (.slice Af fs.length cf) (.slice none 0 0) fs [] X w6 ∧ kIs bs k1 n2 (a + 4) (fs.map Fe.is) [] = R) := Lib.hid ⟨HJ.out.1.rd ho6 hr6 (by omega), by rw [← HJ.out.2, hk1, kFs_yes _ _ _ (by rw [HI.out.2.1]; exact hle), hn2]⟩
      have HK := Lib.hid (And.intro hk1 hli)
      have HCT : Hid (fs.length ≤ a) := Lib.hid HJ.out.1.cnt.1
      clear hC hr6 ho6 hn2 HJ hk1
      go_wp2_with fail
      go_loopw [5, 16] (fun v5 v16 wr => ∃ (j a2 : Nat) (Av : Option Addr) (cv : Nat) (is : List Ins), j ≤ n2 ∧ v16 = .int .i64 (j : Int) ∧ v5 = .slice Av is.length cv ∧ Hid (RJ w qc qe rb B A len cap bs a2 (.slice Af fs.length cf) (.slice none 0 0) fs [] X wr ∧ FJ B a2 (.slice Af fs.length cf) (.slice none 0 0) X (.slice Av is.length cv) is wr ∧ kIs bs k1 (n2 - j) a2 (fs.map Fe.is) is = R ∧ a + 4 ≤ a2)) (fun _ v16 _ => n2 - (intOf v16).toNat)
      case atStart => exact ⟨0, a + 4, none, 0, [], Nat.zero_le _, rfl, rfl, Lib.hid ⟨HJ6.out.1, HF0.out, HJ6.out.2, Nat.le_refl _⟩⟩
      case round =>
        clear HJ6 HF0
        obtain ⟨j, a2, Av, cv, is, hj, rfl, rfl, HJ⟩ := hrel
        obtain ⟨w6, rfl⟩ : ∃ v, v = wr := ⟨_, rfl⟩
        by_cases hlj : j < n2
        · have hd : decide ((j : Int) < (n2 : Int)) = true := by simpa using hlj
          obtain ⟨k2, hk2⟩ : ∃ z, n2 - j = z + 1 := ⟨n2 - j - 1, by omega⟩
          have HZ : Hid (rdI bs a2 = none → R = none) := Lib.hid fun h => by rw [← HJ.out.2.2.1, hk2]; exact kIs_no _ _ _ _ _ h
          go_wp2_with fail
          have HJA := Lib.hid (And.intro HJ.out.1 HJ.out.2.1)
          by_cases hl0 : a2 + 1 ≤ len
          case neg =>
            refine (number_no rb len cap a2 1 A bs w6 HJA.out.1.r (by omega) hl0).mono ?_
            rintro e w9 ⟨rfl, hb9⟩
            have hJ9 := HJA.out.1.bel hb9
            have hz : R = none := HZ.out (rdI_no _ (by rw [HI.out.2.1]; omega))
            refine leaves_cons (f := 31) (args := #[.pointer (some ⟨qc, 0, none⟩), .pointer (some ⟨qe, 0, none⟩)]) (by simp) (by simp [go_sem]) ?_
            refine (rcatch_panicking qc qe _ _ 0 _ _ [] _ hJ9.c hJ9.e (by have := hJ9.lt; omega)).mono ?_
            rintro e u' w'' ⟨rfl, rfl, rfl⟩
            have hq := door_q hJ9
            obtain ⟨W9, hW9⟩ : ∃ V, ((World.setCell w9 ⟨qc, 0, none⟩ (.slice none 0 0)).setCell ⟨qc, 1, none⟩ (.slice none 0 0)).setCell ⟨qe, 0, none⟩ (.int .i64 8) = V := ⟨_, rfl⟩
            rw [hW9] at hq ⊢
            have d0 := hq.1
            have d1 := hq.2.1
            have d2 := hq.2.2.1
            have HD := Lib.hid hq.2.2.2
            clear hq hW9
            simp [Leaves, settle, results, Try.results14, go_sem, d0, d1, d2]
            exact RdPost.no hz HD.out rfl
          have hC := number_yes rb len cap a2 1 A bs w6 HJA.out.1.r (by decide) hl0
          obtain ⟨a3, e0⟩ : ∃ z, a2 + 1 = z := ⟨_, rfl⟩
          rw [e0] at hC
          obtain ⟨op, hop⟩ : ∃ z, leN (fieldOf bs a2 1) = z := ⟨_, rfl⟩
          have hop8 : op < 256 := by rw [← hop]; exact numI1.2
          rw [numI1.1, hop] at hC
          have hwo : IntKind.u8.wrap (op : Int) = (op : Int) := by simp [IntKind.wrap, IntKind.bits, IntKind.signed]; omega
          refine hC.mono ?_
          rintro e u0 ⟨rfl, hr, ho⟩
          have HJ0a := Lib.hid (And.intro (HJA.out.1.rd ho hr (by omega)) (HJA.out.2.rd ho HJA.out.1.lt.2.2.1 (a' := a3) (by omega)))
          clear hr ho hC
          go_wp2_with fail
          by_cases hl1 : a3 + 8 ≤ len
          case neg =>
            refine (number_no rb len cap a3 8 A bs u0 HJ0a.out.1.r (by omega) hl1).mono ?_
            rintro e w9 ⟨rfl, hb9⟩
            have hJ9 := HJ0a.out.1.bel hb9
            have hz : R = none := HZ.out (rdI_no _ (by rw [HI.out.2.1]; omega))
            refine leaves_cons (f := 31) (args := #[.pointer (some ⟨qc, 0, none⟩), .pointer (some ⟨qe, 0, none⟩)]) (by simp) (by simp [go_sem]) ?_
            refine (rcatch_panicking qc qe _ _ 0 _ _ [] _ hJ9.c hJ9.e (by have := hJ9.lt; omega)).mono ?_
            rintro e u' w'' ⟨rfl, rfl, rfl⟩
            have hq := door_q hJ9
            obtain ⟨W9, hW9⟩ : ∃ V, ((World.setCell w9 ⟨qc, 0, none⟩ (.slice none 0 0)).setCell ⟨qc, 1, none⟩ (.slice none 0 0)).setCell ⟨qe, 0, none⟩ (.int .i64 8) = V := ⟨_, rfl⟩
            rw [hW9] at hq ⊢
            have d0 := hq.1
            have d1 := hq.2.1
            have d2 := hq.2.2.1
            have HD := Lib.hid hq.2.2.2
            clear hq hW9
            simp [Leaves, settle, results, Try.results14, go_sem, d0, d1, d2]
            exact RdPost.no hz HD.out rfl
          have hC := number_yes rb len cap a3 8 A bs u0 HJ0a.out.1.r (by decide) hl1
          obtain ⟨a4, e1⟩ : ∃ z, a3 + 8 = z := ⟨_, rfl⟩
          rw [e1] at hC
          obtain ⟨x1, hx1⟩ : ∃ z, numI bs a3 8 = z := ⟨_, rfl⟩
          rw [hx1] at hC
          refine hC.mono ?_
          rintro e u1 ⟨rfl, hr, ho⟩
          have HJ1a := Lib.hid (And.intro (HJ0a.out.1.rd ho hr (by omega)) (HJ0a.out.2.rd ho HJ0a.out.1.lt.2.2.1 (a' := a4) (by omega)))
          clear hr ho hC
          go_wp2_with fail
          by_cases hl2 : a4 + 8 ≤ len
          case neg =>
            refine (number_no rb len cap a4 8 A bs u1 HJ1a.out.1.r (by omega) hl2).mono ?_
            rintro e w9 ⟨rfl, hb9⟩
            have hJ9 := HJ1a.out.1.bel hb9
            have hz : R = none := HZ.out (rdI_no _ (by rw [HI.out.2.1]; omega))
            refine leaves_cons (f := 31) (args := #[.pointer (some ⟨qc, 0, none⟩), .pointer (some ⟨qe, 0, none⟩)]) (by simp) (by simp [go_sem]) ?_
            refine (rcatch_panicking qc qe _ _ 0 _ _ [] _ hJ9.c hJ9.e (by have := hJ9.lt; omega)).mono ?_
            rintro e u' w'' ⟨rfl, rfl, rfl⟩
            have hq := door_q hJ9
            obtain ⟨W9, hW9⟩ : ∃ V, ((World.setCell w9 ⟨qc, 0, none⟩ (.slice none 0 0)).setCell ⟨qc, 1, none⟩ (.slice none 0 0)).setCell ⟨qe, 0, none⟩ (.int .i64 8) = V := ⟨_, rfl⟩
            rw [hW9] at hq ⊢
            have d0 := hq.1
            have d1 := hq.2.1
            have d2 := hq.2.2.1
            have HD := Lib.hid hq.2.2.2
            clear hq hW9
            simp [Leaves, settle, results, Try.results14, go_sem, d0, d1, d2]
            exact RdPost.no hz HD.out rfl
          have hC := number_yes rb len cap a4 8 A bs u1 HJ1a.out.1.r (by decide) hl2
          obtain ⟨a5, e2⟩ : ∃ z, a4 + 8 = z := ⟨_, rfl⟩
          rw [e2] at hC
          obtain ⟨x2, hx2⟩ : ∃ z, numI bs a4 8 = z := ⟨_, rfl⟩
          rw [hx2] at hC
          refine hC.mono ?_
          rintro e u2 ⟨rfl, hr, ho⟩
          have HJ2a := Lib.hid (And.intro (HJ1a.out.1.rd ho hr (by omega)) (HJ1a.out.2.rd ho HJ1a.out.1.lt.2.2.1 (a' := a5) (by omega)))
          clear hr ho hC
          go_wp2_with fail
          by_cases hl3 : a5 + 8 ≤ len
          case neg =>
            refine (number_no rb len cap a5 8 A bs u2 HJ2a.out.1.r (by omega) hl3).mono ?_
            rintro e w9 ⟨rfl, hb9⟩
            have hJ9 := HJ2a.out.1.bel hb9
            have hz : R = none := HZ.out (rdI_no _ (by rw [HI.out.2.1]; omega))
            refine leaves_cons (f := 31) (args := #[.pointer (some ⟨qc, 0, none⟩), .pointer (some ⟨qe, 0, none⟩)]) (by simp) (by simp [go_sem]) ?_
            refine (rcatch_panicking qc qe _ _ 0 _ _ [] _ hJ9.c hJ9.e (by have := hJ9.lt; omega)).mono ?_
            rintro e u' w'' ⟨rfl, rfl, rfl⟩
            have hq := door_q hJ9
            obtain ⟨W9, hW9⟩ : ∃ V, ((World.setCell w9 ⟨qc, 0, none⟩ (.slice none 0 0)).setCell ⟨qc, 1, none⟩ (.slice none 0 0)).setCell ⟨qe, 0, none⟩ (.int .i64 8) = V := ⟨_, rfl⟩
            rw [hW9] at hq ⊢
            have d0 := hq.1
            have d1 := hq.2.1
            have d2 := hq.2.2.1
            have HD := Lib.hid hq.2.2.2
            clear hq hW9
            simp [Leaves, settle, results, Try.results14, go_sem, d0, d1, d2]
            exact RdPost.no hz HD.out rfl
          have hC := number_yes rb len cap a5 8 A bs u2 HJ2a.out.1.r (by decide) hl3
          obtain ⟨a6, e3⟩ : ∃ z, a5 + 8 = z := ⟨_, rfl⟩
          rw [e3] at hC
          obtain ⟨x3, hx3⟩ : ∃ z, numI bs a5 8 = z := ⟨_, rfl⟩
          rw [hx3] at hC
          refine hC.mono ?_
          rintro e u3 ⟨rfl, hr, ho⟩
          have HJ3a := Lib.hid (And.intro (HJ2a.out.1.rd ho hr (by omega)) (HJ2a.out.2.rd ho HJ2a.out.1.lt.2.2.1 (a' := a6) (by omega)))
          clear hr ho hC
          go_wp2_with fail
          by_cases hlt : a6 + 4 ≤ len ∧ a6 + 4 + leN (fieldOf bs a6 4) ≤ len
          case neg =>
            refine (text_no rb len cap a6 A bs u3 HJ3a.out.1.r hlt).mono ?_
            rintro e w9 ⟨rfl, ⟨a9, ha9, hr9⟩, ho9⟩
            have hJ9 := HJ3a.out.1.rd ho9 hr9 ha9
            have hz : R = none := HZ.out (rdI_no _ (by rw [HI.out.2.1, show a2 + 25 = a6 by omega]; omega))
            refine leaves_cons (f := 31) (args := #[.pointer (some ⟨qc, 0, none⟩), .pointer (some ⟨qe, 0, none⟩)]) (by simp) (by simp [go_sem]) ?_
            refine (rcatch_panicking qc qe _ _ 0 _ _ [] _ hJ9.c hJ9.e (by have := hJ9.lt; omega)).mono ?_
            rintro e u' w'' ⟨rfl, rfl, rfl⟩
            have hq := door_q hJ9
            obtain ⟨W9, hW9⟩ : ∃ V, ((World.setCell w9 ⟨qc, 0, none⟩ (.slice none 0 0)).setCell ⟨qc, 1, none⟩ (.slice none 0 0)).setCell ⟨qe, 0, none⟩ (.int .i64 8) = V := ⟨_, rfl⟩
            rw [hW9] at hq ⊢
            have d0 := hq.1
            have d1 := hq.2.1
            have d2 := hq.2.2.1
            have HD := Lib.hid hq.2.2.2
            clear hq hW9
            simp [Leaves, settle, results, Try.results14, go_sem, d0, d1, d2]
            exact RdPost.no hz HD.out rfl
          obtain ⟨tn, htn⟩ : ∃ z, leN (fieldOf bs a6 4) = z := ⟨_, rfl⟩
          rw [htn] at hlt
          have hC := text_yes rb len cap a6 tn A bs u3 HJ3a.out.1.r hlt.1 htn hlt.2
          obtain ⟨tx, htx⟩ : ∃ z, fieldOf bs (a6 + 4) tn = z := ⟨_, rfl⟩
          obtain ⟨a7, e7⟩ : ∃ z, a6 + 4 + tn = z := ⟨_, rfl⟩
          rw [htx, e7] at hC
          refine hC.mono ?_
          rintro e w7 ⟨rfl, hr, ho⟩
          have hJ7 := HJ3a.out.1.rd ho hr (by omega)
          have hF7 := HJ3a.out.2.rd ho HJ3a.out.1.lt.2.2.1 (a' := a7) (by omega)
          have hrd : rdI bs a2 = some (⟨op, x1, x2, x3, tx⟩, a7) := by
            unfold rdI
            rw [show a2 + 25 = a6 by omega, htn, if_pos ⟨by rw [HI.out.2.1]; omega, by rw [HI.out.2.1]; omega⟩, hop, show a2 + 1 = a3 by omega, show a2 + 9 = a4 by omega, show a2 + 17 = a5 by omega, hx1, hx2, hx3, show a2 + 29 = a6 + 4 by omega, htx, e7]
          have hiok : (⟨op, x1, x2, x3, tx⟩ : Ins).ok := ⟨hop8, by rw [← hx1]; exact i64_rng _, by rw [← hx2]; exact i64_rng _, by rw [← hx3]; exact i64_rng _, by show tx.length ≤ maxLen; rw [← htx]; have := field_len (bs := bs) (a6 + 4) tn; unfold maxLen; omega⟩
          obtain ⟨w8, hw8⟩ : ∃ V, w7.alloc (.cells #[.int .u8 (op : Int), .int .i64 x1, .int .i64 x2, .int .i64 x3, .string (str tx)] 46) = V := ⟨_, rfl⟩
          have hb8 : Below w7.heap.size w7 w8 := by rw [← hw8]; exact (Below.refl _ _).alloc (Nat.le_refl _) _
          have B8 : Blk w8 w7.heap.size 46 (Ins.cells ⟨op, x1, x2, x3, tx⟩).toArray := by rw [← hw8]; exact Blk.new _ _ _
          have hax : a7 ≤ 1000000 := by have := hJ7.r.le; have := HI.out.2.2; omega
          have hJ8 := hJ7.bel hb8
          have hF8 := hF7.bel hb8
          have hcx : is.length + 1 ≤ a7 := by have := HJ.out.2.1.ct; omega
          obtain ⟨v', w9, hrun, hown, hgr, hob⟩ := push_ins hF8.own hJ8.lt.2.2.2.2 ⟨op, x1, x2, x3, tx⟩ w7.heap.size B8 (by omega)
          obtain ⟨Av', cv', rfl⟩ := shape_n hown
          have hp := hF8.push hJ8 hown hgr hob hiok hcx
          have hmo : n2 - (j + 1) = k2 := by omega
          have HN : Hid (RJ w qc qe rb B A len cap bs a7 (.slice Af fs.length cf) (.slice none 0 0) fs [] X w9 ∧ FJ B a7 (.slice Af fs.length cf) (.slice none 0 0) X (.slice Av' (is.length + 1) cv') (is ++ [⟨op, x1, x2, x3, tx⟩]) w9 ∧ kIs bs k1 (n2 - (j + 1)) a7 (fs.map Fe.is) (is ++ [⟨op, x1, x2, x3, tx⟩]) = R ∧ a + 4 ≤ a7) := Lib.hid ⟨hp.2, hp.1, by rw [hmo, ← HJ.out.2.2.1, hk2, kIs_yes _ _ _ _ _ hrd], by have := HJ.out.2.2.2; omega⟩
          rw [← hw8] at hrun
          have HR := Lib.hid hrun
          have HL := Lib.hid hlj
          clear hrun hown hgr hob hp hJ8 hF8 hJ7 hF7 hr ho hC hrd hiok hw8 hb8 B8 hax hcx hmo hk2 htx e7 hlt htn hop hx1 hx2 hx3 e0 e1 e2 e3 HZ
          go_wp2_with (at_builtin; refine wpList_app rfl _ _ 44 rfl _ _ _ _ rfl rfl HR.out ?_)
          go_roundw
          case rel => exact ⟨j + 1, a7, Av', cv', is ++ [⟨op, x1, x2, x3, tx⟩], by have := HL.out; omega, by go_num, by rw [List.length_append]; rfl, by rw [List.length_append]; exact HN⟩
          case measure => have := HL.out; simp [intOf]; omega
        · obtain rfl : n2 = j := by omega
          have hd : decide ((n2 : Int) < (n2 : Int)) = false := by simp
          obtain ⟨m, hm⟩ : ∃ z, fs.length = z := ⟨_, rfl⟩
          obtain ⟨w7, hw7⟩ : ∃ V, w6.alloc (.cells #[.slice Av is.length cv] 44) = V := ⟨_, rfl⟩
          have hb7 : Below w6.heap.size w6 w7 := by rw [← hw7]; exact (Below.refl _ _).alloc (Nat.le_refl _) _
          have B7 : Blk w7 w6.heap.size 44 #[fval ⟨Av, cv, is⟩] := by rw [← hw7]; exact Blk.new _ _ _
          have hJ7 := HJ.out.1.bel hb7
          have hF7 := HJ.out.2.1.bel hb7
          have hax : a2 ≤ 1000000 := by have := HJ.out.1.r.le; have := HI.out.2.2; omega
          have hcx : fs.length + 1 ≤ a2 := by have h1 := HCT.out; have h2 := HJ.out.2.2.2; omega
          obtain ⟨fv', w8, hrun, hown, hgr, hob⟩ := push_fe hJ7.fo hJ7.lt.2.2.2.2 ⟨Av, cv, is⟩ w6.heap.size B7 (by omega)
          obtain ⟨Af', cf', rfl⟩ := shape_n hown
          have hJ8 := hJ7.push_f hF7 hown hgr hob hcx
          have c0 : w6.cell? ⟨qc, 0, none⟩ = some (.slice Af m cf) := by rw [← hm]; exact HJ.out.1.c.cell 0
          have hqf : (Value.slice Af fs.length cf).ownBlock ≠ some qc := fun e => by have := (HJ.out.1.fo.lt qc e).1; have := HJ.out.1.lt; omega
          have c8b := hJ7.c.grown hgr fun e => hqf e.symm
          have c8 : w8.cell? ⟨qc, 0, none⟩ = some (.slice Af m cf) := by rw [← hm]; exact c8b.cell 0
          have f8 := c8b.frozen 0
          rw [hm] at hrun hJ8
          rw [← hw7] at hrun
          have HR := Lib.hid hrun
          have HJ8 : Hid (RJ w qc qe rb B A len cap bs a2 (.slice Af' (fs ++ [(⟨Av, cv, is⟩ : Fe)]).length cf') (.slice none 0 0) (fs ++ [⟨Av, cv, is⟩]) [] _ (w8.setCell ⟨qc, 0, none⟩ (.slice Af' (m + 1) cf')) ∧ kFs bs k1 a2 ((fs ++ [(⟨Av, cv, is⟩ : Fe)]).map Fe.is) = R) := Lib.hid ⟨by rw [List.length_append]; show RJ w qc qe rb B A len cap bs a2 (.slice Af' (fs.length + 1) cf') _ _ _ _ _; rw [hm]; exact hJ8, by
            rw [← HJ.out.2.2.1, Nat.sub_self, kIs_0, List.map_append]; rfl⟩
          have hn1 : n1 - (i + 1) = k1 := by have := HK.out.1; omega
          rw [← hn1] at HJ8
          have HL := Lib.hid hli
          clear hown hgr hob hJ8 hJ7 hF7 B7 hb7 hw7 c8b hqf hrun hm hcx
          go_wp2_with (at_builtin; refine wpList_app rfl _ _ 22 rfl _ _ _ _ rfl rfl HR.out ?_)
          go_roundw
          case rel => exact ⟨i + 1, a2, _, _, _, _, by have := HL.out; omega, by go_num, HJ8⟩
          case measure => have := HL.out; simp [intOf]; omega
    · obtain rfl : n1 = i := by omega
      have hd : decide ((n1 : Int) < (n1 : Int)) = false := by simp
      have HE : Hid (kEnd bs (fs.map Fe.is) a = R) := Lib.hid (by rw [← HJ.out.2, Nat.sub_self, kFs_0])
      go_wp2_with fail
      by_cases hle : a + 4 ≤ len
      case neg =>
        refine (number_no rb len cap a 4 A bs w5 HJ.out.1.r (by omega) hle).mono ?_
        rintro e w6 ⟨rfl, hb6⟩
        have hJ6 := HJ.out.1.bel hb6
        have hz : R = none := by rw [← HE.out]; exact kEnd_no _ _ (by rw [HI.out.2.1]; exact hle)
        refine leaves_cons (f := 31) (args := #[.pointer (some ⟨qc, 0, none⟩), .pointer (some ⟨qe, 0, none⟩)]) (by simp) (by simp [go_sem]) ?_
        refine (rcatch_panicking qc qe _ _ 0 _ _ [] _ hJ6.c hJ6.e (by have := hJ6.lt; omega)).mono ?_
        rintro e u' w'' ⟨rfl, rfl, rfl⟩
        have hq := door_q hJ6
        obtain ⟨W9, hW9⟩ : ∃ V, ((World.setCell w6 ⟨qc, 0, none⟩ (.slice none 0 0)).setCell ⟨qc, 1, none⟩ (.slice none 0 0)).setCell ⟨qe, 0, none⟩ (.int .i64 8) = V := ⟨_, rfl⟩
        rw [hW9] at hq ⊢
        have d0 := hq.1
        have d1 := hq.2.1
        have d2 := hq.2.2.1
        have HD := Lib.hid hq.2.2.2
        clear hq hW9
        simp [Leaves, settle, results, Try.results14, go_sem, d0, d1, d2]
        exact RdPost.no hz HD.out rfl
      obtain ⟨n2, hn2⟩ : ∃ z, leN (fieldOf bs a 4) = z := ⟨_, rfl⟩
      have hn2x : n2 < 4294967296 := by rw [← hn2]; exact numI4.2
      have hC := number_yes rb len cap a 4 A bs w5 HJ.out.1.r (by decide) hle
      rw [numI4.1, hn2] at hC
      refine hC.mono ?_
      rintro e w6 ⟨rfl, hr6, ho6⟩
      have HJ6 : Hid (RJ w qc qe rb B A len cap bs (a + 4) (.slice Af fs.length cf) (.slice none 0 0) fs [] X w6 ∧ kRs bs n2 (a + 4) (fs.map Fe.is) [] = R) := Lib.hid ⟨HJ.out.1.rd ho6 hr6 (by omega), by rw [← HE.out, kEnd_yes _ _ (by rw [HI.out.2.1]; exact hle), hn2]⟩
      clear hC hr6 ho6 hn2 HJ HE
      go_wp2_with fail
      go_loopw [43] (fun v43 wr => ∃ (j a2 : Nat) (Ar : Option Addr) (cr : Nat) (rs : List (List UInt8 × List UInt8)), j ≤ n2 ∧ v43 = .int .i64 (j : Int) ∧ Hid (RJ w qc qe rb B A len cap bs a2 (.slice Af fs.length cf) (.slice Ar rs.length cr) fs rs X wr ∧ kRs bs (n2 - j) a2 (fs.map Fe.is) rs = R)) (fun v43 _ => n2 - (intOf v43).toNat)
      case atStart => exact ⟨0, a + 4, none, 0, [], Nat.zero_le _, rfl, HJ6⟩
      case round =>
        clear HJ6
        obtain ⟨j, a2, Ar, cr, rs, hj, rfl, HJ⟩ := hrel
        obtain ⟨w6, rfl⟩ : ∃ v, v = wr := ⟨_, rfl⟩
        by_cases hlj : j < n2
        · have hd : decide ((j : Int) < (n2 : Int)) = true := by simpa using hlj
          obtain ⟨k2, hk2⟩ : ∃ z, n2 - j = z + 1 := ⟨n2 - j - 1, by omega⟩
          have HZ : Hid (rdR bs a2 = none → R = none) := Lib.hid fun h => by rw [← HJ.out.2, hk2]; exact kRs_no _ _ _ _ h
          have c1 : w6.cell? ⟨qc, 1, none⟩ = some (.slice Ar rs.length cr) := HJ.out.1.c.cell 1
          have HC1 : Hid (w6.drew.cell? ⟨qc, 1, none⟩ = some (.slice Ar rs.length cr)) := Lib.hid c1
          have HJd := Lib.hid (HJ.out.1.bel (⟨rfl, rfl, rfl, Nat.le_refl _, fun _ _ => rfl⟩ : Below w6.heap.size w6 w6.drew))
          by_cases hlt : a2 + 4 ≤ len ∧ a2 + 4 + leN (fieldOf bs a2 4) ≤ len
          case neg =>
            have hz : R = none := HZ.out (rdR_no1 _ (rdT_no _ (by rw [HI.out.2.1]; exact hlt)))
            have HT := Lib.hid (text_no rb len cap a2 A bs w6.drew HJd.out.r hlt)
            have HZ2 := Lib.hid hz
            clear hz hlt
            go_wp2_with fail
            refine wp_region_held_drew (S := (fun V => V.cell? ⟨qc, 1, none⟩ = some (.slice Ar rs.length cr))) (by kernel_rfl) HC1.out (fun hHeld => ?_)
            refine takeY 0 (some 45) rfl rfl (by kernel_rfl) (by kernel_rfl) (by kernel_rfl) (fun c a w h => leaves14 (ds := a.defers) (u := .panicking c) a.tmps 45 _ (by decide) h) (by rfl) (v := _) (by (intro _ hSw; (try dsimp only at hSw); go_simp; try with_reducible rfl)) hHeld ?_
            simp only [Act.put, List.setIfInBounds_toArray, List.set_cons_zero, List.set_cons_succ]
            refine takeY 1 (some 46) rfl rfl (by kernel_rfl) (by kernel_rfl) (by kernel_rfl) (fun c a w h => leaves14 (ds := a.defers) (u := .panicking c) a.tmps 46 _ (by decide) h) (by rfl) (v := _) (by (intro _ hSw; (try dsimp only at hSw); go_simp; try with_reducible rfl)) hHeld ?_
            simp only [Act.put, List.setIfInBounds_toArray, List.set_cons_zero, List.set_cons_succ]
            refine takeY 2 (some 47) rfl rfl (by kernel_rfl) (by kernel_rfl) (by kernel_rfl) (fun c a w h => leaves14 (ds := a.defers) (u := .panicking c) a.tmps 47 _ (by decide) h) (by rfl) (v := _) (by (intro _ hSw; (try dsimp only at hSw); go_simp; try with_reducible rfl)) hHeld ?_
            simp only [Act.put, List.setIfInBounds_toArray, List.set_cons_zero, List.set_cons_succ]
            refine takeY 4 (some 49) rfl rfl (by kernel_rfl) (by kernel_rfl) (by kernel_rfl) (fun c a w h => leaves14 (ds := a.defers) (u := .panicking c) a.tmps 49 _ (by decide) h) (by rfl) (v := _) (by (intro _ hSw; (try dsimp only at hSw); go_simp; try with_reducible rfl)) hHeld ?_
            simp only [Act.put, List.setIfInBounds_toArray, List.set_cons_zero, List.set_cons_succ]
            refine wpAnyH_ready (rs := [3]) (by kernel_rfl) (by simp) ?_
            refine AllReadyH.cons rfl (fun K hK => ?_) AllReadyH.nil
            clear hHeld
            go_simp
            go_at_call 33
            refine HT.out.mono ?_
            rintro e w9 ⟨rfl, ⟨a9, ha9, hr9⟩, ho9⟩
            have hJ9 := HJd.out.rd ho9 hr9 ha9
            refine leaves_cons (f := 31) (args := #[.pointer (some ⟨qc, 0, none⟩), .pointer (some ⟨qe, 0, none⟩)]) (by simp) (by simp [go_sem]) ?_
            refine (rcatch_panicking qc qe _ _ 0 _ _ [] _ hJ9.c hJ9.e (by have := hJ9.lt; omega)).mono ?_
            rintro e u' w'' ⟨rfl, rfl, rfl⟩
            have hq := door_q hJ9
            obtain ⟨W9, hW9⟩ : ∃ V, ((World.setCell w9 ⟨qc, 0, none⟩ (.slice none 0 0)).setCell ⟨qc, 1, none⟩ (.slice none 0 0)).setCell ⟨qe, 0, none⟩ (.int .i64 8) = V := ⟨_, rfl⟩
            rw [hW9] at hq ⊢
            have d0 := hq.1
            have d1 := hq.2.1
            have d2 := hq.2.2.1
            have HD := Lib.hid hq.2.2.2
            clear hq hW9
            simp [Leaves, settle, results, Try.results14, go_sem, d0, d1, d2]
            exact RdPost.no HZ2.out HD.out rfl
          obtain ⟨t1, ht1⟩ : ∃ z, leN (fieldOf bs a2 4) = z := ⟨_, rfl⟩
          rw [ht1] at hlt
          have hC1 := text_yes rb len cap a2 t1 A bs w6.drew HJd.out.r hlt.1 ht1 hlt.2
          have hrd1 := rdT_yes (bs := bs) a2 (n := t1) (by rw [HI.out.2.1]; exact hlt.1) ht1 (by rw [HI.out.2.1]; exact hlt.2)
          obtain ⟨r1, hr1⟩ : ∃ z, fieldOf bs (a2 + 4) t1 = z := ⟨_, rfl⟩
          obtain ⟨a3, e3⟩ : ∃ z, a2 + 4 + t1 = z := ⟨_, rfl⟩
          rw [hr1, e3] at hC1 hrd1
          have hr1l : r1.length ≤ maxLen := by rw [← hr1]; have := field_len (bs := bs) (a2 + 4) t1; unfold maxLen; omega
          have HA3 : Hid (a2 + 4 ≤ a3) := Lib.hid (by omega)
          have HT1 := Lib.hid hC1
          have HR1 := Lib.hid (And.intro hrd1 hr1l)
          clear hC1 hrd1 hr1 e3 ht1 hlt hr1l
          by_cases hlt : a3 + 4 ≤ len ∧ a3 + 4 + leN (fieldOf bs a3 4) ≤ len
          case neg =>
            have hz : R = none := HZ.out (rdR_no2 _ HR1.out.1 (rdT_no _ (by rw [HI.out.2.1]; exact hlt)))
            have HT := Lib.hid (fun V (h : RB V rb A len cap bs a3) => text_no rb len cap a3 A bs V h hlt)
            have HZ2 := Lib.hid hz
            clear hz hlt
            go_wp2_with fail
            refine wp_region_held_drew (S := (fun V => V.cell? ⟨qc, 1, none⟩ = some (.slice Ar rs.length cr))) (by kernel_rfl) HC1.out (fun hHeld => ?_)
            refine takeY 0 (some 45) rfl rfl (by kernel_rfl) (by kernel_rfl) (by kernel_rfl) (fun c a w h => leaves14 (ds := a.defers) (u := .panicking c) a.tmps 45 _ (by decide) h) (by rfl) (v := _) (by (intro _ hSw; (try dsimp only at hSw); go_simp; try with_reducible rfl)) hHeld ?_
            simp only [Act.put, List.setIfInBounds_toArray, List.set_cons_zero, List.set_cons_succ]
            refine takeY 1 (some 46) rfl rfl (by kernel_rfl) (by kernel_rfl) (by kernel_rfl) (fun c a w h => leaves14 (ds := a.defers) (u := .panicking c) a.tmps 46 _ (by decide) h) (by rfl) (v := _) (by (intro _ hSw; (try dsimp only at hSw); go_simp; try with_reducible rfl)) hHeld ?_
            simp only [Act.put, List.setIfInBounds_toArray, List.set_cons_zero, List.set_cons_succ]
            refine takeY 2 (some 47) rfl rfl (by kernel_rfl) (by kernel_rfl) (by kernel_rfl) (fun c a w h => leaves14 (ds := a.defers) (u := .panicking c) a.tmps 47 _ (by decide) h) (by rfl) (v := _) (by (intro _ hSw; (try dsimp only at hSw); go_simp; try with_reducible rfl)) hHeld ?_
            simp only [Act.put, List.setIfInBounds_toArray, List.set_cons_zero, List.set_cons_succ]
            refine takeY 4 (some 49) rfl rfl (by kernel_rfl) (by kernel_rfl) (by kernel_rfl) (fun c a w h => leaves14 (ds := a.defers) (u := .panicking c) a.tmps 49 _ (by decide) h) (by rfl) (v := _) (by (intro _ hSw; (try dsimp only at hSw); go_simp; try with_reducible rfl)) hHeld ?_
            simp only [Act.put, List.setIfInBounds_toArray, List.set_cons_zero, List.set_cons_succ]
            refine wpAnyH_ready (rs := [3]) (by kernel_rfl) (by simp) ?_
            refine AllReadyH.cons rfl (fun K hK => ?_) AllReadyH.nil
            clear hHeld
            go_simp
            go_wp2_with (go_at_call 33; refine HT1.out.mono ?_; rintro e w7 ⟨rfl, hr7, ho7⟩; have HJ7 := Lib.hid (HJd.out.rd ho7 hr7 (by have := HA3.out; omega)))
            refine hK.out _ _ (HJ7.out.c.cell 1) (fun hHeld => ?_)
            clear hK K
            refine wpAnyH_ready (rs := [5]) (by kernel_rfl) (by simp) ?_
            refine AllReadyH.cons rfl (fun K hK => ?_) AllReadyH.nil
            clear hHeld
            go_simp
            go_at_call 33
            refine (HT.out _ HJ7.out.r).mono ?_
            rintro e w9 ⟨rfl, ⟨a9, ha9, hr9⟩, ho9⟩
            have hJ9 := HJ7.out.rd ho9 hr9 ha9
            refine leaves_cons (f := 31) (args := #[.pointer (some ⟨qc, 0, none⟩), .pointer (some ⟨qe, 0, none⟩)]) (by simp) (by simp [go_sem]) ?_
            refine (rcatch_panicking qc qe _ _ 0 _ _ [] _ hJ9.c hJ9.e (by have := hJ9.lt; omega)).mono ?_
            rintro e u' w'' ⟨rfl, rfl, rfl⟩
            have hq := door_q hJ9
            obtain ⟨W9, hW9⟩ : ∃ V, ((World.setCell w9 ⟨qc, 0, none⟩ (.slice none 0 0)).setCell ⟨qc, 1, none⟩ (.slice none 0 0)).setCell ⟨qe, 0, none⟩ (.int .i64 8) = V := ⟨_, rfl⟩
            rw [hW9] at hq ⊢
            have d0 := hq.1
            have d1 := hq.2.1
            have d2 := hq.2.2.1
            have HD := Lib.hid hq.2.2.2
            clear hq hW9
            simp [Leaves, settle, results, Try.results14, go_sem, d0, d1, d2]
            exact RdPost.no HZ2.out HD.out rfl
          obtain ⟨t2, ht2⟩ : ∃ z, leN (fieldOf bs a3 4) = z := ⟨_, rfl⟩
          rw [ht2] at hlt
          have hC2 := fun V (h : RB V rb A len cap bs a3) => text_yes rb len cap a3 t2 A bs V h hlt.1 ht2 hlt.2
          have hrd2 := rdT_yes (bs := bs) a3 (n := t2) (by rw [HI.out.2.1]; exact hlt.1) ht2 (by rw [HI.out.2.1]; exact hlt.2)
          obtain ⟨r2, hr2⟩ : ∃ z, fieldOf bs (a3 + 4) t2 = z := ⟨_, rfl⟩
          obtain ⟨a4, e4⟩ : ∃ z, a3 + 4 + t2 = z := ⟨_, rfl⟩
          rw [hr2, e4] at hrd2
          have hC3 : ∀ V, RB V rb A len cap bs a3 → Calls Try.prog 33 #[.pointer (some ⟨rb, 0, none⟩)] V fun e w' => e = .returned (.string (str r2)) ∧ RB w' rb A len cap bs a4 ∧ Off (fun k => k = rb) V w' := fun V h => by have h9 := hC2 V h; rw [hr2, e4] at h9; exact h9
          have hr2l : r2.length ≤ maxLen := by rw [← hr2]; have := field_len (bs := bs) (a3 + 4) t2; unfold maxLen; omega
          have HA4 : Hid (a3 + 4 ≤ a4) := Lib.hid (by omega)
          have HT2 := Lib.hid hC3
          have HR2 : Hid (rtOk (r1, r2)) := Lib.hid ⟨HR1.out.2, hr2l⟩
          have HKR : Hid (kRs bs (n2 - (j + 1)) a4 (fs.map Fe.is) (rs ++ [(r1, r2)]) = R) := Lib.hid (by rw [← HJ.out.2, hk2, kRs_yes _ _ _ _ (rdR_yes _ HR1.out.1 hrd2), show n2 - (j + 1) = k2 by omega])
          have HL := Lib.hid hlj
          clear hC2 hC3 hrd2 hr2 e4 ht2 hlt hr2l hk2 HZ
          go_wp2_with fail
          refine wp_region_held_drew (S := fun _ => True) (by kernel_rfl) trivial (fun hHeld => ?_)
          refine takeY 0 (some 45) rfl rfl (by kernel_rfl) (by kernel_rfl) (by kernel_rfl) (fun c a w h => leaves14 (ds := a.defers) (u := .panicking c) a.tmps 45 _ (by decide) h) (by rfl) (v := _) (by (intro _ hSw; (try dsimp only at hSw); go_simp; try with_reducible rfl)) hHeld ?_
          simp only [Act.put, List.setIfInBounds_toArray, List.set_cons_zero, List.set_cons_succ]
          refine takeY 2 (some 47) rfl rfl (by kernel_rfl) (by kernel_rfl) (by kernel_rfl) (fun c a w h => leaves14 (ds := a.defers) (u := .panicking c) a.tmps 47 _ (by decide) h) (by rfl) (v := _) (by (intro _ hSw; (try dsimp only at hSw); go_simp; try with_reducible rfl)) hHeld ?_
          simp only [Act.put, List.setIfInBounds_toArray, List.set_cons_zero, List.set_cons_succ]
          refine takeY 4 (some 49) rfl rfl (by kernel_rfl) (by kernel_rfl) (by kernel_rfl) (fun c a w h => leaves14 (ds := a.defers) (u := .panicking c) a.tmps 49 _ (by decide) h) (by rfl) (v := _) (by (intro _ hSw; (try dsimp only at hSw); go_simp; try with_reducible rfl)) hHeld ?_
          simp only [Act.put, List.setIfInBounds_toArray, List.set_cons_zero, List.set_cons_succ]
          refine wpAnyH_ready (rs := [1, 3]) (by kernel_rfl) (by simp) ?_
          refine AllReadyH.cons rfl (fun K hK => ?_) (AllReadyH.cons rfl (fun K hK => ?_) AllReadyH.nil)
          · go_simp
            refine hK.out _ _ trivial (fun hHeld => ?_)
            clear hK K
            refine wpAnyH_ready (rs := [3]) (by kernel_rfl) (by simp) ?_
            refine AllReadyH.cons rfl (fun K hK => ?_) AllReadyH.nil
            clear hHeld
            go_simp
            go_wp2_with (go_at_call 33; refine HT1.out.mono ?_; rintro e w7 ⟨rfl, hr7, ho7⟩; have HJ7 := Lib.hid (HJd.out.rd ho7 hr7 (by have := HA3.out; omega)); clear hr7 ho7)
            have c7 : w7.cell? ⟨qc, 1, none⟩ = some (.slice Ar rs.length cr) := HJ7.out.c.cell 1
            refine hK.out _ _ trivial (fun hHeld => ?_)
            clear hK K
            refine wpAnyH_ready (rs := [5]) (by kernel_rfl) (by simp) ?_
            refine AllReadyH.cons rfl (fun K hK => ?_) AllReadyH.nil
            clear hHeld
            go_simp
            go_wp2_with (go_at_call 33; refine (HT2.out _ HJ7.out.r).mono ?_; rintro e w8 ⟨rfl, hr8, ho8⟩; have HJ8 := Lib.hid (HJ7.out.rd ho8 hr8 (by have := HA4.out; omega)); clear hr8 ho8)
            have c8 : w8.cell? ⟨qc, 1, none⟩ = some (.slice Ar rs.length cr) := HJ8.out.c.cell 1
            have c9 : (w8.alloc (.cells #[.string (str r1), .string (str r2)] 48)).cell? ⟨qc, 1, none⟩ = some (.slice Ar rs.length cr) := (HJ8.out.bel ((Below.refl _ _).alloc (Nat.le_refl _) _)).c.cell 1
            refine hK.out _ _ trivial (fun hHeld => ?_)
            clear hK K
            refine takeY 6 (some 51) rfl rfl (by kernel_rfl) (by kernel_rfl) (by kernel_rfl) (fun c a w h => leaves14 (ds := a.defers) (u := .panicking c) a.tmps 51 _ (by decide) h) (by rfl) (v := _) (by (intro _ hSw; (try dsimp only at hSw); go_simp; try with_reducible rfl)) hHeld ?_
            simp only [Act.put, List.setIfInBounds_toArray, List.set_cons_zero, List.set_cons_succ]
            refine wpAnyH_ready (rs := [7]) (by kernel_rfl) (by simp) ?_
            refine AllReadyH.cons rfl (fun K hK => ?_) AllReadyH.nil
            go_simp
            refine hK.out _ _ trivial (fun hHeld => ?_)
            clear hK K
            have hJ8 := HJ8.out
            have hba : Below w8.heap.size w8 (w8.alloc (.cells #[.string (str r1), .string (str r2)] 48)) := (Below.refl _ _).alloc (Nat.le_refl _) _
            have hJ9 := hJ8.bel hba
            have hax : rs.length + 1 ≤ a4 ∧ a4 ≤ 1000000 := ⟨by have h1 := HJ.out.1.cnt.2; have h2 := HA3.out; have h3 := HA4.out; omega, by have := hJ8.r.le; have := HI.out.2.2; omega⟩
            obtain ⟨rv', w9, hrun, hown, hgr, hob⟩ := push_rt hJ9.ro hJ9.lt.2.2.2.2 (r1, r2) w8.heap.size (Blk.new w8 _ _) (by omega)
            obtain ⟨Ar', cr', rfl⟩ := shape_n hown
            have hpr := hJ9.push_r hown hgr hob HR2.out hax.1
            have hqr : (Value.slice Ar rs.length cr).ownBlock ≠ some qc := fun e => by have := (hJ9.ro.lt qc e).1; have := hJ9.lt; omega
            have b9 := hJ9.c.grown hgr fun e => hqr e.symm
            have c3 : w9.cell? ⟨qc, 1, none⟩ = some (.slice Ar rs.length cr) := b9.cell 1
            have f3 := b9.frozen 1
            have HRUN := Lib.hid hrun
            have HG := Lib.hid (And.intro (show RJ w qc qe rb B A len cap bs a4 (.slice Af fs.length cf) (.slice Ar' (rs ++ [(r1, r2)]).length cr') fs (rs ++ [(r1, r2)]) X (w9.setCell ⟨qc, 1, none⟩ (.slice Ar' (rs.length + 1) cr')) by rw [List.length_append]; exact hpr) HKR.out)
            clear hown hgr hob hpr hqr b9 hJ9 hJ8 hba hax hrun
            refine wpAnyH_ready (rs := [8]) (by kernel_rfl) (by simp) ?_
            refine AllReadyH.cons rfl (fun K hK => ?_) AllReadyH.nil
            refine step_app rfl (.tmp 46) (.tmp 52) 23 rfl _ _ _ _ (by simp [Act.eval]) (by simp [Act.eval]) HRUN.out ?_
            refine hK.out _ _ trivial (fun hHeld => ?_)
            clear hK K
            refine takeY 9 (some 54) rfl rfl (by kernel_rfl) (by kernel_rfl) (by kernel_rfl) (fun c a w h => leaves14 (ds := a.defers) (u := .panicking c) a.tmps 54 _ (by decide) h) (by rfl) (v := _) (by (intro _ hSw; (try dsimp only at hSw); go_simp; try with_reducible rfl)) hHeld ?_
            simp only [Act.put, List.setIfInBounds_toArray, List.set_cons_zero, List.set_cons_succ]
            refine wpAnyH_ready (rs := [10]) (by kernel_rfl) (by simp) ?_
            refine AllReadyH.cons rfl (fun K hK => ?_) AllReadyH.nil
            go_simp
            refine hK.out _ _ trivial (fun hHeld => ?_)
            clear hK K
            refine wpAnyH_done (by kernel_rfl) ?_ _
            clear hHeld
            go_wp2_with fail
            go_roundw
            case rel => exact ⟨j + 1, a4, _, _, _, by have := HL.out; omega, by go_num, HG⟩
            case measure => have := HL.out; simp [intOf]; omega
          · clear hHeld
            go_simp
            go_wp2_with (go_at_call 33; refine HT1.out.mono ?_; rintro e w7 ⟨rfl, hr7, ho7⟩; have HJ7 := Lib.hid (HJd.out.rd ho7 hr7 (by have := HA3.out; omega)); clear hr7 ho7)
            have c7 : w7.cell? ⟨qc, 1, none⟩ = some (.slice Ar rs.length cr) := HJ7.out.c.cell 1
            refine hK.out _ _ trivial (fun hHeld => ?_)
            clear hK K
            refine wpAnyH_ready (rs := [1, 5]) (by kernel_rfl) (by simp) ?_
            refine AllReadyH.cons rfl (fun K hK => ?_) (AllReadyH.cons rfl (fun K hK => ?_) AllReadyH.nil)
            · go_simp
              refine hK.out _ _ trivial (fun hHeld => ?_)
              clear hK K
              refine wpAnyH_ready (rs := [5]) (by kernel_rfl) (by simp) ?_
              refine AllReadyH.cons rfl (fun K hK => ?_) AllReadyH.nil
              clear hHeld
              go_simp
              go_wp2_with (go_at_call 33; refine (HT2.out _ HJ7.out.r).mono ?_; rintro e w8 ⟨rfl, hr8, ho8⟩; have HJ8 := Lib.hid (HJ7.out.rd ho8 hr8 (by have := HA4.out; omega)); clear hr8 ho8)
              have c8 : w8.cell? ⟨qc, 1, none⟩ = some (.slice Ar rs.length cr) := HJ8.out.c.cell 1
              have c9 : (w8.alloc (.cells #[.string (str r1), .string (str r2)] 48)).cell? ⟨qc, 1, none⟩ = some (.slice Ar rs.length cr) := (HJ8.out.bel ((Below.refl _ _).alloc (Nat.le_refl _) _)).c.cell 1
              refine hK.out _ _ trivial (fun hHeld => ?_)
              clear hK K
              refine takeY 6 (some 51) rfl rfl (by kernel_rfl) (by kernel_rfl) (by kernel_rfl) (fun c a w h => leaves14 (ds := a.defers) (u := .panicking c) a.tmps 51 _ (by decide) h) (by rfl) (v := _) (by (intro _ hSw; (try dsimp only at hSw); go_simp; try with_reducible rfl)) hHeld ?_
              simp only [Act.put, List.setIfInBounds_toArray, List.set_cons_zero, List.set_cons_succ]
              refine wpAnyH_ready (rs := [7]) (by kernel_rfl) (by simp) ?_
              refine AllReadyH.cons rfl (fun K hK => ?_) AllReadyH.nil
              go_simp
              refine hK.out _ _ trivial (fun hHeld => ?_)
              clear hK K
              have hJ8 := HJ8.out
              have hba : Below w8.heap.size w8 (w8.alloc (.cells #[.string (str r1), .string (str r2)] 48)) := (Below.refl _ _).alloc (Nat.le_refl _) _
              have hJ9 := hJ8.bel hba
              have hax : rs.length + 1 ≤ a4 ∧ a4 ≤ 1000000 := ⟨by have h1 := HJ.out.1.cnt.2; have h2 := HA3.out; have h3 := HA4.out; omega, by have := hJ8.r.le; have := HI.out.2.2; omega⟩
              obtain ⟨rv', w9, hrun, hown, hgr, hob⟩ := push_rt hJ9.ro hJ9.lt.2.2.2.2 (r1, r2) w8.heap.size (Blk.new w8 _ _) (by omega)
              obtain ⟨Ar', cr', rfl⟩ := shape_n hown
              have hpr := hJ9.push_r hown hgr hob HR2.out hax.1
              have hqr : (Value.slice Ar rs.length cr).ownBlock ≠ some qc := fun e => by have := (hJ9.ro.lt qc e).1; have := hJ9.lt; omega
              have b9 := hJ9.c.grown hgr fun e => hqr e.symm
              have c3 : w9.cell? ⟨qc, 1, none⟩ = some (.slice Ar rs.length cr) := b9.cell 1
              have f3 := b9.frozen 1
              have HRUN := Lib.hid hrun
              have HG := Lib.hid (And.intro (show RJ w qc qe rb B A len cap bs a4 (.slice Af fs.length cf) (.slice Ar' (rs ++ [(r1, r2)]).length cr') fs (rs ++ [(r1, r2)]) X (w9.setCell ⟨qc, 1, none⟩ (.slice Ar' (rs.length + 1) cr')) by rw [List.length_append]; exact hpr) HKR.out)
              clear hown hgr hob hpr hqr b9 hJ9 hJ8 hba hax hrun
              refine wpAnyH_ready (rs := [8]) (by kernel_rfl) (by simp) ?_
              refine AllReadyH.cons rfl (fun K hK => ?_) AllReadyH.nil
              refine step_app rfl (.tmp 46) (.tmp 52) 23 rfl _ _ _ _ (by simp [Act.eval]) (by simp [Act.eval]) HRUN.out ?_
              refine hK.out _ _ trivial (fun hHeld => ?_)
              clear hK K
              refine takeY 9 (some 54) rfl rfl (by kernel_rfl) (by kernel_rfl) (by kernel_rfl) (fun c a w h => leaves14 (ds := a.defers) (u := .panicking c) a.tmps 54 _ (by decide) h) (by rfl) (v := _) (by (intro _ hSw; (try dsimp only at hSw); go_simp; try with_reducible rfl)) hHeld ?_
              simp only [Act.put, List.setIfInBounds_toArray, List.set_cons_zero, List.set_cons_succ]
              refine wpAnyH_ready (rs := [10]) (by kernel_rfl) (by simp) ?_
              refine AllReadyH.cons rfl (fun K hK => ?_) AllReadyH.nil
              go_simp
              refine hK.out _ _ trivial (fun hHeld => ?_)
              clear hK K
              refine wpAnyH_done (by kernel_rfl) ?_ _
              clear hHeld
              go_wp2_with fail
              go_roundw
              case rel => exact ⟨j + 1, a4, _, _, _, by have := HL.out; omega, by go_num, HG⟩
              case measure => have := HL.out; simp [intOf]; omega
            · clear hHeld
              go_simp
              go_wp2_with (go_at_call 33; refine (HT2.out _ HJ7.out.r).mono ?_; rintro e w8 ⟨rfl, hr8, ho8⟩; have HJ8 := Lib.hid (HJ7.out.rd ho8 hr8 (by have := HA4.out; omega)); clear hr8 ho8)
              have c8 : w8.cell? ⟨qc, 1, none⟩ = some (.slice Ar rs.length cr) := HJ8.out.c.cell 1
              have c9 : (w8.alloc (.cells #[.string (str r1), .string (str r2)] 48)).cell? ⟨qc, 1, none⟩ = some (.slice Ar rs.length cr) := (HJ8.out.bel ((Below.refl _ _).alloc (Nat.le_refl _) _)).c.cell 1
              refine hK.out _ _ trivial (fun hHeld => ?_)
              clear hK K
              refine takeY 6 (some 51) rfl rfl (by kernel_rfl) (by kernel_rfl) (by kernel_rfl) (fun c a w h => leaves14 (ds := a.defers) (u := .panicking c) a.tmps 51 _ (by decide) h) (by rfl) (v := _) (by (intro _ hSw; (try dsimp only at hSw); go_simp; try with_reducible rfl)) hHeld ?_
              simp only [Act.put, List.setIfInBounds_toArray, List.set_cons_zero, List.set_cons_succ]
              refine wpAnyH_ready (rs := [1, 7]) (by kernel_rfl) (by simp) ?_
              refine AllReadyH.cons rfl (fun K hK => ?_) (AllReadyH.cons rfl (fun K hK => ?_) AllReadyH.nil)
              · go_simp
                refine hK.out _ _ trivial (fun hHeld => ?_)
                clear hK K
                refine wpAnyH_ready (rs := [7]) (by kernel_rfl) (by simp) ?_
                refine AllReadyH.cons rfl (fun K hK => ?_) AllReadyH.nil
                go_simp
                refine hK.out _ _ trivial (fun hHeld => ?_)
                clear hK K
                have hJ8 := HJ8.out
                have hba : Below w8.heap.size w8 (w8.alloc (.cells #[.string (str r1), .string (str r2)] 48)) := (Below.refl _ _).alloc (Nat.le_refl _) _
                have hJ9 := hJ8.bel hba
                have hax : rs.length + 1 ≤ a4 ∧ a4 ≤ 1000000 := ⟨by have h1 := HJ.out.1.cnt.2; have h2 := HA3.out; have h3 := HA4.out; omega, by have := hJ8.r.le; have := HI.out.2.2; omega⟩
                obtain ⟨rv', w9, hrun, hown, hgr, hob⟩ := push_rt hJ9.ro hJ9.lt.2.2.2.2 (r1, r2) w8.heap.size (Blk.new w8 _ _) (by omega)
                obtain ⟨Ar', cr', rfl⟩ := shape_n hown
                have hpr := hJ9.push_r hown hgr hob HR2.out hax.1
                have hqr : (Value.slice Ar rs.length cr).ownBlock ≠ some qc := fun e => by have := (hJ9.ro.lt qc e).1; have := hJ9.lt; omega
                have b9 := hJ9.c.grown hgr fun e => hqr e.symm
                have c3 : w9.cell? ⟨qc, 1, none⟩ = some (.slice Ar rs.length cr) := b9.cell 1
                have f3 := b9.frozen 1
                have HRUN := Lib.hid hrun
                have HG := Lib.hid (And.intro (show RJ w qc qe rb B A len cap bs a4 (.slice Af fs.length cf) (.slice Ar' (rs ++ [(r1, r2)]).length cr') fs (rs ++ [(r1, r2)]) X (w9.setCell ⟨qc, 1, none⟩ (.slice Ar' (rs.length + 1) cr')) by rw [List.length_append]; exact hpr) HKR.out)
                clear hown hgr hob hpr hqr b9 hJ9 hJ8 hba hax hrun
                refine wpAnyH_ready (rs := [8]) (by kernel_rfl) (by simp) ?_
                refine AllReadyH.cons rfl (fun K hK => ?_) AllReadyH.nil
                refine step_app rfl (.tmp 46) (.tmp 52) 23 rfl _ _ _ _ (by simp [Act.eval]) (by simp [Act.eval]) HRUN.out ?_
                refine hK.out _ _ trivial (fun hHeld => ?_)
                clear hK K
                refine takeY 9 (some 54) rfl rfl (by kernel_rfl) (by kernel_rfl) (by kernel_rfl) (fun c a w h => leaves14 (ds := a.defers) (u := .panicking c) a.tmps 54 _ (by decide) h) (by rfl) (v := _) (by (intro _ hSw; (try dsimp only at hSw); go_simp; try with_reducible rfl)) hHeld ?_
                simp only [Act.put, List.setIfInBounds_toArray, List.set_cons_zero, List.set_cons_succ]
                refine wpAnyH_ready (rs := [10]) (by kernel_rfl) (by simp) ?_
                refine AllReadyH.cons rfl (fun K hK => ?_) AllReadyH.nil
                go_simp
                refine hK.out _ _ trivial (fun hHeld => ?_)
                clear hK K
                refine wpAnyH_done (by kernel_rfl) ?_ _
                clear hHeld
                go_wp2_with fail
                go_roundw
                case rel => exact ⟨j + 1, a4, _, _, _, by have := HL.out; omega, by go_num, HG⟩
                case measure => have := HL.out; simp [intOf]; omega
              · go_simp
                refine hK.out _ _ trivial (fun hHeld => ?_)
                clear hK K
                refine wpAnyH_ready (rs := [1]) (by kernel_rfl) (by simp) ?_
                refine AllReadyH.cons rfl (fun K hK => ?_) AllReadyH.nil
                go_simp
                refine hK.out _ _ trivial (fun hHeld => ?_)
                clear hK K
                have hJ8 := HJ8.out
                have hba : Below w8.heap.size w8 (w8.alloc (.cells #[.string (str r1), .string (str r2)] 48)) := (Below.refl _ _).alloc (Nat.le_refl _) _
                have hJ9 := hJ8.bel hba
                have hax : rs.length + 1 ≤ a4 ∧ a4 ≤ 1000000 := ⟨by have h1 := HJ.out.1.cnt.2; have h2 := HA3.out; have h3 := HA4.out; omega, by have := hJ8.r.le; have := HI.out.2.2; omega⟩
                obtain ⟨rv', w9, hrun, hown, hgr, hob⟩ := push_rt hJ9.ro hJ9.lt.2.2.2.2 (r1, r2) w8.heap.size (Blk.new w8 _ _) (by omega)
                obtain ⟨Ar', cr', rfl⟩ := shape_n hown
                have hpr := hJ9.push_r hown hgr hob HR2.out hax.1
                have hqr : (Value.slice Ar rs.length cr).ownBlock ≠ some qc := fun e => by have := (hJ9.ro.lt qc e).1; have := hJ9.lt; omega
                have b9 := hJ9.c.grown hgr fun e => hqr e.symm
                have c3 : w9.cell? ⟨qc, 1, none⟩ = some (.slice Ar rs.length cr) := b9.cell 1
                have f3 := b9.frozen 1
                have HRUN := Lib.hid hrun
                have HG := Lib.hid (And.intro (show RJ w qc qe rb B A len cap bs a4 (.slice Af fs.length cf) (.slice Ar' (rs ++ [(r1, r2)]).length cr') fs (rs ++ [(r1, r2)]) X (w9.setCell ⟨qc, 1, none⟩ (.slice Ar' (rs.length + 1) cr')) by rw [List.length_append]; exact hpr) HKR.out)
                clear hown hgr hob hpr hqr b9 hJ9 hJ8 hba hax hrun
                refine wpAnyH_ready (rs := [8]) (by kernel_rfl) (by simp) ?_
                refine AllReadyH.cons rfl (fun K hK => ?_) AllReadyH.nil
                refine step_app rfl (.tmp 46) (.tmp 52) 23 rfl _ _ _ _ (by simp [Act.eval]) (by simp [Act.eval]) HRUN.out ?_
                refine hK.out _ _ trivial (fun hHeld => ?_)
                clear hK K
                refine takeY 9 (some 54) rfl rfl (by kernel_rfl) (by kernel_rfl) (by kernel_rfl) (fun c a w h => leaves14 (ds := a.defers) (u := .panicking c) a.tmps 54 _ (by decide) h) (by rfl) (v := _) (by (intro _ hSw; (try dsimp only at hSw); go_simp; try with_reducible rfl)) hHeld ?_
                simp only [Act.put, List.setIfInBounds_toArray, List.set_cons_zero, List.set_cons_succ]
                refine wpAnyH_ready (rs := [10]) (by kernel_rfl) (by simp) ?_
                refine AllReadyH.cons rfl (fun K hK => ?_) AllReadyH.nil
                go_simp
                refine hK.out _ _ trivial (fun hHeld => ?_)
                clear hK K
                refine wpAnyH_done (by kernel_rfl) ?_ _
                clear hHeld
                go_wp2_with fail
                go_roundw
                case rel => exact ⟨j + 1, a4, _, _, _, by have := HL.out; omega, by go_num, HG⟩
                case measure => have := HL.out; simp [intOf]; omega
        · obtain rfl : n2 = j := by omega
          have hd : decide ((n2 : Int) < (n2 : Int)) = false := by simp
          have HE : Hid ((if a2 = bs.length then some (⟨fs.map Fe.is, rs⟩ : Cd) else none) = R) := Lib.hid (by rw [← HJ.out.2, Nat.sub_self, kRs_0])
          have r1 : w6.cell? ⟨rb, 1, none⟩ = some (.int .i64 (a2 : Int)) := HJ.out.1.r.blk.cell 1
          by_cases hal : a2 = len
          · have hn : decide ((a2 : Int) ≠ (len : Int)) = false := by simp [hal]
            have hn9 : ((a2 : Int) != (len : Int)) = false := by simp [hal]
            have hz : R = some ⟨fs.map Fe.is, rs⟩ := by rw [← HE.out]; exact if_pos (by rw [HI.out.2.1]; exact hal)
            have hq := end_q HJ.out.1
            have c0 : w6.cell? ⟨qc, 0, none⟩ = some (.slice Af fs.length cf) := HJ.out.1.c.cell 0
            have c1 : w6.cell? ⟨qc, 1, none⟩ = some (.slice Ar rs.length cr) := HJ.out.1.c.cell 1
            have z0 := HJ.out.1.c.frozen 0
            have g1 := hq.1.1
            have g2 := hq.1.2.1
            have g3 := hq.1.2.2.1
            have g4 := hq.1.2.2.2
            have HQ := Lib.hid (And.intro hq.2 hz)
            have HTH := Lib.hid (HJ.out.1.end3 (.slice Af fs.length cf) (.slice Ar rs.length cr) (.int .i64 0))
            clear hq hz HE
            go_wp2_with fail
            refine leaves_cons (f := 31) (args := #[.pointer (some ⟨qc, 0, none⟩), .pointer (some ⟨qe, 0, none⟩)]) (by simp) (by simp [go_sem]) ?_
            refine (rcatch_idle ⟨qc, 0, none⟩ ⟨qe, 0, none⟩ _).mono ?_
            rintro e u' w'' ⟨rfl, rfl, rfl⟩
            obtain ⟨⟨q0, q1, q2, q3, q4⟩, hz⟩ := HQ.out
            obtain ⟨W9, hW9⟩ : ∃ V, ((World.setCell w6 ⟨qc, 0, none⟩ (.slice Af fs.length cf)).setCell ⟨qc, 1, none⟩ (.slice Ar rs.length cr)).setCell ⟨qe, 0, none⟩ (.int .i64 0) = V := ⟨_, rfl⟩
            have q5 := HTH.out
            rw [hW9] at q0 q1 q2 q3 q4 q5 ⊢
            have HD := Lib.hid (And.intro q3 (And.intro q4 (And.intro hz q5)))
            clear q3 q4 q5 hz hW9 g1 g2 g3 g4 c0 c1 z0
            simp [Leaves, settle, results, Try.results14, go_sem, q0, q1, q2]
            exact RdPost.yes ⟨fs, Af, cf, rs, Ar, cr⟩ HD.out.2.2.1 HD.out.1 rfl HD.out.2.1 HD.out.2.2.2
          · have hn : decide ((a2 : Int) ≠ (len : Int)) = true := by simp; omega
            have hn9 : ((a2 : Int) != (len : Int)) = true := by simp; omega
            have hz : R = none := by rw [← HE.out]; exact if_neg (by rw [HI.out.2.1]; exact hal)
            have HZ2 := Lib.hid hz
            clear hz HE
            go_wp2_with fail
            refine leaves_cons (f := 31) (args := #[.pointer (some ⟨qc, 0, none⟩), .pointer (some ⟨qe, 0, none⟩)]) (by simp) (by simp [go_sem]) ?_
            refine (rcatch_panicking qc qe _ _ 0 _ _ [] _ HJ.out.1.c HJ.out.1.e (by have := HJ.out.1.lt; omega)).mono ?_
            rintro e u' w'' ⟨rfl, rfl, rfl⟩
            have hq := door_q HJ.out.1
            obtain ⟨W9, hW9⟩ : ∃ V, ((World.setCell w6 ⟨qc, 0, none⟩ (.slice none 0 0)).setCell ⟨qc, 1, none⟩ (.slice none 0 0)).setCell ⟨qe, 0, none⟩ (.int .i64 8) = V := ⟨_, rfl⟩
            rw [hW9] at hq ⊢
            have d0 := hq.1
            have d1 := hq.2.1
            have d2 := hq.2.2.1
            have HD := Lib.hid hq.2.2.2
            clear hq hW9
            simp [Leaves, settle, results, Try.results14, go_sem, d0, d1, d2]
            exact RdPost.no HZ2.out HD.out rfl
end Go.Proofs.Ytimkiifcmegfeaa
