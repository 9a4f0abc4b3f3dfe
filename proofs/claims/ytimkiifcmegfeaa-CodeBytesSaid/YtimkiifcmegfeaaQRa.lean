/- Contracts. -/
import Derived.Test.YtimkiifcmegfeaaBN
import Derived.Test.YtimkiifcmegfeaaBA
/- code: the reference's reader. -/
namespace Go.Proofs.Ytimkiifcmegfeaa
open Go.RowKit
set_option linter.unusedVariables false
set_option linter.unusedSimpArgs false
attribute [local go_sem] Oper.semAt_some
/-- A reader of the reference: bytes, the place, is it bad. -/
structure RD (w : World) (rb : Nat) (A : Option Addr) (len cap : Nat) (bs : List UInt8) (at_ : Nat) (bd : Bool) : Prop where
  blk : Blk w rb 74 #[.slice A len cap, .int .i64 (at_ : Int), .bool bd]
  by_ : Bytes w A bs
  ln : bs.length = len ∧ len ≤ 1000000
  le : at_ ≤ len
  ne : ∀ p : Addr, A = some p → p.block ≠ rb
section
variable {w w' : World} {rb len cap at_ : Nat} {A : Option Addr} {bs : List UInt8} {bd : Bool}
theorem RD.bel (h : RD w rb A len cap bs at_ bd) (hb : Below w.heap.size w w') : RD w' rb A len cap bs at_ bd := ⟨h.blk.below hb h.blk.lt, h.by_.below hb, h.ln, h.le, h.ne⟩
theorem RD.off {F : Nat → Prop} (h : RD w rb A len cap bs at_ bd) (ho : Off F w w') (hr : ¬ F rb) (hA : ∀ p : Addr, A = some p → ¬ F p.block) : RD w' rb A len cap bs at_ bd :=
  ⟨h.blk.off ho hr, h.by_.same ho.size (fun p e hlt => ho.block _ hlt (hA p e)), h.ln, h.le, h.ne⟩
theorem RD.to (h : RD w rb A len cap bs at_ bd) {a : Nat} (ha : a ≤ len) : RD (w.setCell ⟨rb, 1, none⟩ (.int .i64 (a : Int))) rb A len cap bs a bd := by
  refine ⟨by simpa using Blk.set_ h.blk 1 (.int .i64 (a : Int)), h.by_.same (by simp) (fun p e hlt => ?_), h.ln, ha, h.ne⟩
  exact Below.heap_setCell w ⟨rb, 1, none⟩ _ _ (h.ne p e)
theorem RD.toBad (h : RD w rb A len cap bs at_ bd) : RD (w.setCell ⟨rb, 2, none⟩ (.bool true)) rb A len cap bs at_ true := by
  refine ⟨by simpa using Blk.set_ h.blk 2 (.bool true), h.by_.same (by simp) (fun p e hlt => ?_), h.ln, h.le, h.ne⟩
  exact Below.heap_setCell w ⟨rb, 2, none⟩ _ _ (h.ne p e)
end
/-- Is a number there? -/
def nOk (len a n : Nat) (bd : Bool) : Bool := !bd && decide (a + n ≤ len)
def numV (bs : List UInt8) (len a n : Nat) (bd : Bool) : Nat := if nOk len a n bd = true then leN (fieldOf bs a n) else 0
def numA (len a n : Nat) (bd : Bool) : Nat := if nOk len a n bd = true then a + n else a
theorem numV_le (bs : List UInt8) (len a : Nat) {n : Nat} (bd : Bool) : numV bs len a n bd < 256 ^ n := by
  unfold numV
  split
  · have h1 := leN_lt (fieldOf bs a n)
    have h2 : (fieldOf bs a n).length ≤ n := by unfold fieldOf; rw [List.length_take]; omega
    exact Nat.lt_of_lt_of_le h1 (Nat.pow_le_pow_right (by omega) h2)
  · exact Nat.pow_pos (by omega)
theorem numA_le {len a n : Nat} {bd : Bool} (h : a ≤ len) : a ≤ numA len a n bd ∧ numA len a n bd ≤ len := by
  unfold numA nOk
  split
  · rename_i h1
    simp at h1
    omega
  · omega
set_option maxRecDepth 20000 in
set_option maxHeartbeats 2000000 in
theorem rdnum_any (rb len cap a n : Nat) (bd : Bool) (A : Option Addr) (bs : List UInt8) (w : World) (h : RD w rb A len cap bs a bd) (hn : sizeB n = true) :
    Calls Try.prog 34 #[.pointer (some ⟨rb, 0, none⟩), .int .i64 (n : Int)] w fun e w' => e = .returned (.int .u64 (numV bs len a n bd : Int)) ∧ RD w' rb A len cap bs (numA len a n bd) (!nOk len a n bd) ∧ Off (fun k => k = rb) w w' := by
  have hn8 : n ≤ 8 ∧ 1 ≤ n := by have := (sizeB_iff n).1 hn; omega
  have hl := h.ln
  have c0 : w.cell? ⟨rb, 0, none⟩ = some (.slice A len cap) := h.blk.cell 0
  have c1 : w.cell? ⟨rb, 1, none⟩ = some (.int .i64 (a : Int)) := h.blk.cell 1
  have hd := Off.drew (fun k => k = rb) w
  have hR2 := h.bel ((Below.refl w.heap.size w).drew)
  have d1 : w.drew.cell? ⟨rb, 1, none⟩ = some (.int .i64 (a : Int)) := hR2.blk.cell 1
  have d2 : w.drew.cell? ⟨rb, 2, none⟩ = some (.bool bd) := hR2.blk.cell 2
  have g1 := hR2.blk.frozen 1
  have g2 := hR2.blk.frozen 2
  by_cases hle : a + n ≤ len
  · have HC := Lib.hid (fun (V : World) (hA : Bytes V A bs) => refget_ok A len cap a n bs V hl.1 hn hle (by omega) hA)
    obtain ⟨X, hX⟩ : ∃ z, leN (fieldOf bs a n) = z := ⟨_, rfl⟩
    rw [hX] at HC
    have hs : IntKind.i64.wrap ((a : Int) + (n : Int)) = ((a + n : Nat) : Int) := by rw [IntWalk.i64_in _ ⟨by omega, by omega⟩]; omega
    have hbd2 := hR2.by_
    cases bd with
    | false =>
      have hok : nOk len a n false = true := by simp [nOk, hle]
      have HG : Hid (numV bs len a n false = X ∧ RD (w.drew.setCell ⟨rb, 1, none⟩ (.int .i64 ((a + n : Nat) : Int))) rb A len cap bs (numA len a n false) (!nOk len a n false) ∧ Off (fun k => k = rb) w (w.drew.setCell ⟨rb, 1, none⟩ (.int .i64 ((a + n : Nat) : Int)))) := Lib.hid ⟨by unfold numV; rw [if_pos hok, hX], by unfold numA; rw [hok, if_pos rfl]; exact hR2.to hle, hd.trans (Off.setc _ rb 1 _)⟩
      have HB := Lib.hid hbd2
      clear h hR2 hX hok hd hbd2
      go_enter Try.func34, Try.ntmps34
      go_wp2_with fail
      go_region_with (go_at_call 59; refine (HC.out _ HB.out).mono ?_; rintro e w2 ⟨rfl, rfl⟩)
      all_goals
        go_wp2_with fail
        go_ret
        have e1 : ((a : Int) + (n : Int)) = ((a + n : Nat) : Int) := by omega
        rw [e1]
        exact ⟨by rw [HG.out.1] <;> rfl, HG.out.2⟩
    | true =>
      have hok : nOk len a n true = false := rfl
      have HG : Hid (numV bs len a n true = 0 ∧ RD (w.drew.setCell ⟨rb, 2, none⟩ (.bool true)) rb A len cap bs (numA len a n true) (!nOk len a n true) ∧ Off (fun k => k = rb) w (w.drew.setCell ⟨rb, 2, none⟩ (.bool true))) := Lib.hid ⟨by unfold numV; rw [if_neg (by rw [hok]; decide)], by unfold numA; rw [hok, if_neg (by decide)]; exact hR2.toBad, hd.trans (Off.setc _ rb 2 _)⟩
      have HB := Lib.hid hbd2
      clear h hR2 hX hok hd hbd2
      go_enter Try.func34, Try.ntmps34
      go_wp2_with fail
      go_region_with (go_at_call 59; refine (HC.out _ HB.out).mono ?_; rintro e w2 ⟨rfl, rfl⟩)
      all_goals
        go_wp2_with fail
        go_ret
        exact ⟨by rw [HG.out.1] <;> rfl, HG.out.2⟩
  · have hin : insideB (len : Int) (a : Int) (n : Int) = false := by unfold insideB; simp; omega
    have HC := Lib.hid (fun (V : World) => refget_no A len cap a n V (by omega) (by omega) (.inr hin))
    have hok : nOk len a n bd = false := by cases bd <;> simp [nOk, hle]
    have HG : Hid (numV bs len a n bd = 0 ∧ RD (w.drew.setCell ⟨rb, 2, none⟩ (.bool true)) rb A len cap bs (numA len a n bd) (!nOk len a n bd) ∧ Off (fun k => k = rb) w (w.drew.setCell ⟨rb, 2, none⟩ (.bool true))) := Lib.hid ⟨by unfold numV; rw [if_neg (by rw [hok]; decide)], by unfold numA; rw [hok, if_neg (by decide)]; exact hR2.toBad, hd.trans (Off.setc _ rb 2 _)⟩
    clear h hR2 hok hd hin hle
    go_enter Try.func34, Try.ntmps34
    go_wp2_with fail
    go_region_with (go_at_call 59; refine (HC.out _).mono ?_; rintro e w2 ⟨rfl, rfl⟩)
    all_goals
      go_wp2_with fail
      go_ret
      exact ⟨by rw [HG.out.1] <;> rfl, HG.out.2⟩
/-- Is a text there? -/
def tOk (bs : List UInt8) (len a : Nat) (bd : Bool) : Bool := nOk len a 4 bd && decide (a + 4 + leN (fieldOf bs a 4) ≤ len)
def tV (bs : List UInt8) (len a : Nat) (bd : Bool) : List UInt8 := if tOk bs len a bd = true then fieldOf bs (a + 4) (leN (fieldOf bs a 4)) else []
def tA (bs : List UInt8) (len a : Nat) (bd : Bool) : Nat := if tOk bs len a bd = true then a + 4 + leN (fieldOf bs a 4) else numA len a 4 bd
theorem tA_le {bs : List UInt8} {len a : Nat} {bd : Bool} (h : a ≤ len) : a ≤ tA bs len a bd ∧ tA bs len a bd ≤ len := by
  unfold tA
  split
  · rename_i h1
    unfold tOk at h1
    simp at h1
    omega
  · exact numA_le h
theorem tV_len (bs : List UInt8) (len a : Nat) (bd : Bool) (h : bs.length = len) : (tV bs len a bd).length ≤ len := by
  unfold tV
  split
  · unfold fieldOf; rw [List.length_take, List.length_drop]; omega
  · exact Nat.zero_le _
set_option maxRecDepth 20000 in
set_option maxHeartbeats 4000000 in
theorem rdtext_any (rb len cap a : Nat) (bd : Bool) (A : Option Addr) (bs : List UInt8) (w : World) (h : RD w rb A len cap bs a bd) :
    Calls Try.prog 35 #[.pointer (some ⟨rb, 0, none⟩)] w fun e w' => e = .returned (.string (str (tV bs len a bd))) ∧ RD w' rb A len cap bs (tA bs len a bd) (!tOk bs len a bd) ∧ Off (fun k => k = rb) w w' := by
  have HN := Lib.hid (rdnum_any rb len cap a 4 bd A bs w h (by decide))
  obtain ⟨n, hn⟩ : ∃ z, numV bs len a 4 bd = z := ⟨_, rfl⟩
  obtain ⟨a1, ha1⟩ : ∃ z, numA len a 4 bd = z := ⟨_, rfl⟩
  obtain ⟨b1, hb1⟩ : ∃ z, (!nOk len a 4 bd) = z := ⟨_, rfl⟩
  have hn4 : n < 4294967296 := by rw [← hn]; exact numV_le bs len a bd
  rw [hn, ha1, hb1] at HN
  have hl := h.ln
  have hal : a1 ≤ len := by rw [← ha1]; exact (numA_le h.le).2
  have hcv : IntKind.i64.wrap (n : Int) = (n : Int) := IntWalk.i64_in _ ⟨by omega, by omega⟩
  have HI := Lib.hid (And.intro hn (And.intro ha1 (And.intro hb1 h)))
  clear hn ha1 hb1 h
  go_enter Try.func35, Try.ntmps35
  go_wp2_with fail
  refine HN.out.mono ?_
  rintro e w1 ⟨rfl, h1, ho1⟩
  have c0 : w1.cell? ⟨rb, 0, none⟩ = some (.slice A len cap) := h1.blk.cell 0
  have c1 : w1.cell? ⟨rb, 1, none⟩ = some (.int .i64 (a1 : Int)) := h1.blk.cell 1
  have hd := ho1.trans (Off.drew (fun k => k = rb) w1)
  have hR2 := h1.bel ((Below.refl w1.heap.size w1).drew)
  have d1 : w1.drew.cell? ⟨rb, 1, none⟩ = some (.int .i64 (a1 : Int)) := hR2.blk.cell 1
  have d2 : w1.drew.cell? ⟨rb, 2, none⟩ = some (.bool b1) := hR2.blk.cell 2
  have g1 := hR2.blk.frozen 1
  have g2 := hR2.blk.frozen 2
  by_cases hle : a1 + n ≤ len
  · have HC := Lib.hid (fun (V : World) (hA : Bytes V A bs) => refcut_ok A len cap a1 n bs V hl.1 hle (by omega) hA)
    have hs : IntKind.i64.wrap ((a1 : Int) + (n : Int)) = ((a1 + n : Nat) : Int) := by rw [IntWalk.i64_in _ ⟨by omega, by omega⟩]; omega
    have HB := Lib.hid hR2
    have HO := Lib.hid hd
    clear HN h1 ho1 hR2 hd
    cases b1 with
    | false =>
      have hok : nOk len a 4 bd = true := by have := HI.out.2.2.1; simpa using this
      have e1 : n = leN (fieldOf bs a 4) := by have := HI.out.1; unfold numV at this; rw [if_pos hok] at this; exact this.symm
      have e2 : a1 = a + 4 := by have := HI.out.2.1; unfold numA at this; rw [if_pos hok] at this; exact this.symm
      have htk : tOk bs len a bd = true := by unfold tOk; rw [hok, ← e1, ← e2, decide_eq_true hle]; rfl
      have HT : Hid (tV bs len a bd = fieldOf bs a1 n ∧ tA bs len a bd = a1 + n ∧ tOk bs len a bd = true) := Lib.hid ⟨by unfold tV; rw [if_pos htk, e1, e2], by unfold tA; rw [if_pos htk, e1, e2], htk⟩
      clear hok htk e1 e2
      clear d1 d2 g1 g2
      go_wp2_with fail
      go_region_with (go_at_call 60; refine (HC.out _ HB.out.by_).mono ?_; rintro e w2 ⟨v, rfl, hown, hw2⟩
                      have hR3 := HB.out.bel hw2
                      obtain ⟨Av, cv, rfl⟩ := own_shape hown
                      have d1 : w2.cell? ⟨rb, 1, none⟩ = some (.int .i64 (a1 : Int)) := hR3.blk.cell 1
                      have d2 : w2.cell? ⟨rb, 2, none⟩ = some (.bool false) := hR3.blk.cell 2
                      have g1 := hR3.blk.frozen 1
                      have hby : Bytes (w2.setCell ⟨rb, 1, none⟩ (.int .i64 ((a1 : Int) + (n : Int)))) Av (fieldOf bs a1 n) := (Bytes.of_own hown).same (by simp) (fun p e hlt => Below.heap_setCell w2 ⟨rb, 1, none⟩ _ _ (by
                        have h8 := (hown.lt p.block (by rw [e]; rfl)).1
                        have h9 := HB.out.blk.lt
                        show p.block ≠ rb
                        omega))
                      have hst := run_str8L (w2.setCell ⟨rb, 1, none⟩ (.int .i64 ((a1 : Int) + (n : Int)))) Av n cv (fieldOf bs a1 n) (by unfold fieldOf; rw [List.length_take, List.length_drop, hl.1]; omega) hby
                      have HG : Hid (RD (w2.setCell ⟨rb, 1, none⟩ (.int .i64 ((a1 + n : Nat) : Int))) rb A len cap bs (a1 + n) false ∧ Off (fun k => k = rb) w (w2.setCell ⟨rb, 1, none⟩ (.int .i64 ((a1 + n : Nat) : Int)))) := Lib.hid ⟨hR3.to hle, HO.out.trans ((Off.of_new hw2 _).trans (Off.setc w2 rb 1 _))⟩
                      clear hw2 hR3 hown hby)
      all_goals
        go_wp2_with fail
        go_ret
        have e1 : ((a1 : Int) + (n : Int)) = ((a1 + n : Nat) : Int) := by omega
        rw [e1, HT.out.1, HT.out.2.1, HT.out.2.2]
        exact ⟨rfl, HG.out⟩
    | true =>
      have hok : nOk len a 4 bd = false := by have := HI.out.2.2.1; simpa using this
      have htk : tOk bs len a bd = false := by unfold tOk; rw [hok]; rfl
      have HT : Hid (tV bs len a bd = [] ∧ tA bs len a bd = a1 ∧ tOk bs len a bd = false) := Lib.hid ⟨by unfold tV; rw [if_neg (by rw [htk]; decide)], by unfold tA; rw [if_neg (by rw [htk]; decide)]; exact HI.out.2.1, htk⟩
      clear hok htk
      clear d1 d2 g1 g2
      go_wp2_with fail
      go_region_with (go_at_call 60; refine (HC.out _ HB.out.by_).mono ?_; rintro e w2 ⟨v, rfl, hown, hw2⟩
                      have hR3 := HB.out.bel hw2
                      obtain ⟨Av, cv, rfl⟩ := own_shape hown
                      have d2 : w2.cell? ⟨rb, 2, none⟩ = some (.bool true) := hR3.blk.cell 2
                      have g2 := hR3.blk.frozen 2
                      have HG : Hid (RD (w2.setCell ⟨rb, 2, none⟩ (.bool true)) rb A len cap bs a1 true ∧ Off (fun k => k = rb) w (w2.setCell ⟨rb, 2, none⟩ (.bool true))) := Lib.hid ⟨hR3.toBad, HO.out.trans ((Off.of_new hw2 _).trans (Off.setc w2 rb 2 _))⟩
                      clear hw2 hR3 hown)
      all_goals
        go_wp2_with fail
        go_ret
        rw [HT.out.1, HT.out.2.1, HT.out.2.2]
        exact ⟨rfl, HG.out⟩
  · have hin : insideB (len : Int) (a1 : Int) (n : Int) = false := by unfold insideB; simp; omega
    have HC := Lib.hid (fun (V : World) => refcut_no A len cap a1 n V (by omega) (by omega) hin)
    have htk : tOk bs len a bd = false := by
      unfold tOk
      cases hok : nOk len a 4 bd with
      | false => rfl
      | true =>
        have e1 : n = leN (fieldOf bs a 4) := by have := HI.out.1; unfold numV at this; rw [if_pos hok] at this; exact this.symm
        have e2 : a1 = a + 4 := by have := HI.out.2.1; unfold numA at this; rw [if_pos hok] at this; exact this.symm
        rw [← e1, ← e2, decide_eq_false hle]; rfl
    have HT : Hid (tV bs len a bd = [] ∧ tA bs len a bd = a1 ∧ tOk bs len a bd = false) := Lib.hid ⟨by unfold tV; rw [if_neg (by rw [htk]; decide)], by unfold tA; rw [if_neg (by rw [htk]; decide)]; exact HI.out.2.1, htk⟩
    have HG : Hid (RD (w1.drew.setCell ⟨rb, 2, none⟩ (.bool true)) rb A len cap bs a1 true ∧ Off (fun k => k = rb) w (w1.drew.setCell ⟨rb, 2, none⟩ (.bool true))) := Lib.hid ⟨hR2.toBad, hd.trans (Off.setc _ rb 2 _)⟩
    clear HN h1 ho1 hR2 hd htk hin hle
    go_wp2_with fail
    go_region_with (go_at_call 60; refine (HC.out _).mono ?_; rintro e w2 ⟨rfl, rfl⟩)
    all_goals
      go_wp2_with fail
      go_ret
      rw [HT.out.1, HT.out.2.1, HT.out.2.2]
      exact ⟨rfl, HG.out⟩
end Go.Proofs.Ytimkiifcmegfeaa
