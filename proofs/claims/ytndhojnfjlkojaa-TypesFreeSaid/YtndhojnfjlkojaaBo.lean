/- types: books. -/
import Derived.Test.YtndhojnfjlkojaaFn
namespace Go.Proofs.Ytndhojnfjlkojaa
open Go.RowKit
set_option linter.unusedVariables false
set_option linter.unusedSimpArgs false
attribute [local go_sem] Oper.semAt_some
open Ty
theorem NewB.step {w w1 w2 : World} {g N N' : Nat} {vb vt vb' vt' : Value} (h : NewB w w1 g N vb vt) (hb : BM w2 g N' [] vb' vt') (hg : Go w1 g vb vt w2 vb' vt') : NewB w w2 g N' vb' vt' :=
  ⟨hb, h.bel.trans (hg.off.below h.bel.size h.mt), fun b hm => by
    rcases hg.new b hm with h1 | h1
    · exact h.mt b h1
    · have := h.bel.size; omega⟩
theorem NewB.bel' {w w1 w2 : World} {g N : Nat} {vb vt : Value} (h : NewB w w1 g N vb vt) (hb : Below w1.heap.size w1 w2) : NewB w w2 g N vb vt := h.step (h.bm.bel hb) (Go.bel _ _ _ hb)
theorem own_off1 {w w' : World} {base : Nat} {e : TypeId} {size : Nat} {v : Value} {n r : Nat} {xs : List Value} (h : w.ownsRow base e size v n xs) (ho : Off (fun b => b = r) w w') (hr : v.ownBlock ≠ some r) : w'.ownsRow base e size v n xs :=
  h.kept (row := some r) ⟨ho.os, ho.tape, ho.output, ho.size, fun k hk hn => ho.block k hk fun e => hn (by rw [e])⟩ (.inr hr)
theorem BM.off_nil {w w' : World} {g N r : Nat} {vb vt : Value} (h : BM w g N [] vb vt) (ho : Off (fun b => b = r) w w') (hr : ¬ Mut g vb vt r) : BM w' g N [] vb vt := by
  obtain ⟨ps, h1, h2⟩ := h.bnd
  refine ⟨h.blk.off ho (fun e => hr (.inl e.symm)), ⟨ps, own_off1 h1 ho (fun e => hr (.inr (.inl e))), fun x hx => ?_⟩, own_off1 h.trl ho (fun e => hr (.inr (.inr e))), h.nb, h.nt, h.bt, h.cnt, h.few⟩
  obtain ⟨pv, k1, k2⟩ := h2 x hx
  refine ⟨pv, k1, ?_⟩
  rcases k2 with k2 | ⟨t, p, A, c, k6, _⟩
  · exact .inl k2
  · cases k6
theorem NewB.off_nil {w w1 w2 : World} {g N r : Nat} {vb vt : Value} (h : NewB w w1 g N vb vt) (ho : Off (fun b => b = r) w1 w2) (hr : ¬ Mut g vb vt r) (hw : w.heap.size ≤ r) : NewB w w2 g N vb vt :=
  ⟨h.bm.off_nil ho hr, h.bel.trans (ho.below h.bel.size (fun k e => by omega)), h.mt⟩
set_option maxRecDepth 20000 in
set_option maxHeartbeats 4000000 in
theorem books_any (m : Nat) (hm : m < 256) (w : World) : Calls Try.prog 19 #[.int .u8 (m : Int)] w fun e w' => ∃ g r vb', e = .returned (.tuple #[.pointer (some ⟨g, 0, none⟩), .pointer r]) ∧ NewB w w' g (m % 12) vb' (.slice none 0 0) := by
  obtain ⟨k, hk⟩ : ∃ k, m % 12 = k := ⟨_, rfl⟩
  have hk2 : k < 12 := by omega
  have hmod : (m : Int).tmod 12 = (k : Int) := by rw [Int.tmod_eq_emod_of_nonneg (by omega)]; omega
  rw [hk]
  have HN := Lib.hid fun W => new_any W
  have HR := Lib.hid fun W => rnew_any W
  clear hk
  go_enter Try.func19, Try.ntmps19
  go_wp2_with (first
    | (go_at_call 29; refine (HN.out _).mono ?_; rintro e w1 ⟨g, rfl, hb1⟩; have HB1 := Lib.hid hb1; clear hb1)
    | (go_at_call 38; refine (HR.out _).mono ?_; rintro e w2 ⟨rfl, hr2, hb2⟩; have HB2 : Hid (NewB w w2 g 0 (.slice none 0 0) (.slice none 0 0) ∧ Blk w2 w1.heap.size 71 #[.int .i64 ((0 : Nat) : Int), .slice none 0 0] ∧ w.heap.size ≤ w1.heap.size ∧ ¬ Mut g (.slice none 0 0) (.slice none 0 0) w1.heap.size) := Lib.hid ⟨HB1.out.bel' hb2, hr2, HB1.out.bel.size, fun h => by have := HB1.out.bm.lt h; omega⟩; clear hr2 hb2))
  clear HN HR HB1
  obtain ⟨r, hr⟩ : ∃ r, w1.heap.size = r := ⟨_, rfl⟩
  rw [hr] at HB2 ⊢
  go_loopw [6] (fun iv wr => ∃ (i : Nat) (vb : Value), i ≤ k ∧ iv = .int .i64 (i : Int) ∧ Hid (NewB w wr g i vb (.slice none 0 0) ∧ Blk wr r 71 #[.int .i64 (i : Int), .slice none 0 0] ∧ ¬ Mut g vb (.slice none 0 0) r ∧ w.heap.size ≤ r)) (fun iv _ => k - (intOf iv).toNat)
  case atStart => exact ⟨0, _, Nat.zero_le _, rfl, Lib.hid ⟨HB2.out.1, HB2.out.2.1, HB2.out.2.2.2, HB2.out.2.2.1⟩⟩
  case round =>
    obtain ⟨i, vb, hi, rfl, hJ⟩ := hrel
    by_cases hli : i < k
    · have hd : decide ((i : Int) < (k : Int)) = true := by simpa using hli
      have HF := Lib.hid (fresh_any hJ.out.1.bm (show i < 100000 by omega))
      have HRF := Lib.hid fun W hW => rfresh_any (r := r) (n := i) W hW (by omega)
      go_wp2_with (first
        | (go_at_call 27; refine HF.out.mono ?_; rintro e w3 ⟨rfl, vb', hb3, hg3⟩; have HB3 : Hid (NewB w w3 g (i + 1) vb' (.slice none 0 0) ∧ Blk w3 r 71 #[.int .i64 (i : Int), .slice none 0 0] ∧ ¬ Mut g vb' (.slice none 0 0) r) := Lib.hid ⟨hJ.out.1.step hb3 hg3, hg3.blk hJ.out.2.1 hJ.out.2.2.1, hg3.apart hJ.out.2.2.1 hJ.out.2.1.lt⟩; clear hb3 hg3)
        | (go_at_call 39; refine (HRF.out _ HB3.out.2.1).mono ?_; rintro e w4 ⟨⟨v4, rfl⟩, hr4, ho4⟩; have HB4 : Hid (NewB w w4 g (i + 1) vb' (.slice none 0 0) ∧ Blk w4 r 71 #[.int .i64 ((i + 1 : Nat) : Int), .slice none 0 0] ∧ ¬ Mut g vb' (.slice none 0 0) r) := Lib.hid ⟨HB3.out.1.off_nil ho4 HB3.out.2.2 hJ.out.2.2.2, hr4, HB3.out.2.2⟩; clear hr4 ho4))
      have HN : Hid (NewB w w4 g (i + 1) vb' (.slice none 0 0) ∧ Blk w4 r 71 #[.int .i64 ((i + 1 : Nat) : Int), .slice none 0 0] ∧ ¬ Mut g vb' (.slice none 0 0) r ∧ w.heap.size ≤ r) := Lib.hid ⟨HB4.out.1, HB4.out.2.1, HB4.out.2.2, hJ.out.2.2.2⟩
      clear hJ HF HRF HB3 HB4
      go_roundw
      case rel => exact ⟨i + 1, vb', by omega, by go_num, HN⟩
      case measure => simp [intOf]; omega
    · obtain rfl : k = i := by omega
      have hd : decide ((k : Int) < (k : Int)) = false := by simp
      go_wp2_with fail
      (try simp only [Exit.inBlock, Exit.then])
      refine bodyPost_ret (results_tmp2 rfl _ _ _) rfl ?_
      exact ⟨g, some ⟨r, 0, none⟩, vb, rfl, hJ.out.1⟩
end Go.Proofs.Ytndhojnfjlkojaa
