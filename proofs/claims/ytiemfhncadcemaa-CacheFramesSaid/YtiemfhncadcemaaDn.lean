/- cache: does of Read, told more of. -/
import Derived.Test.YtiemfhncadcemaaDj
namespace Go.Proofs.Ytiemfhncadcemaa
open Go.RowKit Dsk
/-- As DidW; no bytes are answered where there is an error. -/
def DidF (w0 w w' : World) (X : Nat → Prop) (g dg nn most t : Nat) (D : DS) (L : List Fr) (o : Ov) (en : Ending) : Prop :=
  ∃ A len c is e bs D' L' q, en = .returned (.agg #[.slice A len c, .bool is, .int .i64 e]) ∧ (Did o nn D L e bs D' L' ∧ (o.kind = 0 → e ≠ 0 → bs = [])) ∧ bs.length = len ∧ Bytes w' A bs ∧ (∀ p : Addr, A = some p → p.block = q) ∧ w.heap.size ≤ q ∧ CS w0 w' (fun k => X k ∨ k = q) g dg nn most (t + 1025) D' L' ∧ Keep X w w'
theorem DidW.more {w0 w w' : World} {X : Nat → Prop} {g dg nn most t : Nat} {D : DS} {L : List Fr} {o : Ov} {en : Ending} (h : DidW w0 w w' X g dg nn most t D L o en) (hk : o.kind ≠ 0) : DidF w0 w w' X g dg nn most t D L o en := by
  obtain ⟨A, len, c, is, e, bs, D', L', q, h1, h2, h3⟩ := h
  exact ⟨A, len, c, is, e, bs, D', L', q, h1, ⟨h2, fun h => absurd h hk⟩, h3⟩
/-- The end. -/
theorem LpI.finF {w0 w wr wf : World} {X Z : Nat → Prop} {g dg nn most t0 : Nat} {D D0 : DS} {L L0 : List Fr} {q len n2 c2 q2 : Nat} {xs : Array Value} {A : Option Addr} {bs : List UInt8} {o : Ov} {e : Int} (h : LpI w0 w wr X Z g dg nn most (t0 + 1025) D L q len xs A bs) (h0 : w0.heap.size ≤ w.heap.size) (hX : ∀ k, X k → k < w.heap.size)
    (ho : Off (fun k => k = w.heap.size + 1) wr wf) (hd : Did o nn D0 L0 e bs D L ∧ (o.kind = 0 → e ≠ 0 → bs = [])) (hl : bs.length = n2) (hA : ∀ p : Addr, A = some p → p.block = q2 ∧ w.heap.size + 3 ≤ p.block) (hq2 : w.heap.size ≤ q2) (hZ2 : Z q2) (hZX : ∀ k, X k → Z k) (hZr : Z (w.heap.size + 1)) (is : Bool) :
    DidF w0 w wf X g dg nn most t0 D0 L0 o (.returned (.agg #[.slice A n2 c2, .bool is, .int .i64 e])) :=
  ⟨A, n2, c2, is, e, bs, D, L, q2, rfl, hd, hl, h.by_.off ho (fun p e e' => by have e'' : p.block = w.heap.size + 1 := e'; have := (hA p e).2; omega), fun p e => (hA p e).1, hq2,
    (h.cs.turnX ho (fun k e => by have e' : k = w.heap.size + 1 := e; rw [e']; exact ⟨hZr, by omega⟩)).less (fun k hk => by rcases hk with hk | hk; exact hZX k hk; rw [hk]; exact hZ2),
    h.keep.trans ⟨ho.size, fun k hk' => ho.block k (Nat.lt_of_lt_of_le (hX k hk') h.keep.size) (fun e => by have e' : k = w.heap.size + 1 := e; have := hX k hk'; omega)⟩⟩
section
variable {w0 w : World} {X : Nat → Prop} {g dg nn most t : Nat} {D : DS} {L : List Fr}
set_option maxRecDepth 20000 in
set_option maxHeartbeats 2000000 in
theorem CS.does_readF (h : CS w0 w X g dg nn most t D L) {v0 v1 v2 v3 v4 : Value} {o : Ov} (hv : OpV w v0 v1 v2 v3 v4 o) (hk : o.kind = 0) (ht : t < 800000) :
    Calls Try.prog 13 #[.pointer (some ⟨g, 0, none⟩), .pointer (some ⟨dg, 0, none⟩), .agg #[v0, v1, v2, v3, v4]] w (fun en w' => DidF w0 w w' X g dg nn most t D L o en) := by
  obtain ⟨cs, hcs⟩ : ∃ cs : Array Value, #[v0, v1, v2, v3, v4] = cs := ⟨_, rfl⟩
  have hd := h.does0 cs
  have hz := Dz.new w cs
  obtain ⟨⟨e0, _, _⟩, ⟨e1, hs1, hs2⟩, ⟨A, c, e2, _⟩, ⟨K, d, e3, _⟩, ⟨e4, _, _⟩⟩ := hv
  have hcall : Calls Try.prog 20 #[.pointer (some ⟨g, 0, none⟩), .int .i64 o.s] (wD w cs) fun en w' => ∃ A len c e bs D' L' q, en = .returned (.tuple #[.slice A len c, .int .i64 e]) ∧ (Did o nn D L e bs D' L' ∧ (o.kind = 0 → e ≠ 0 → bs = [])) ∧ (bs.length = len ∧ len ≤ c ∧ len ≤ 256 ∧ c ≤ maxLen) ∧ Bytes w' A bs ∧ (0 < len → (w.heap.size + 3 ≤ q ∧ A = some ⟨q, 0, none⟩ ∧ Mut w' q len)) ∧ w.heap.size ≤ q ∧ CS w0 w' (fun k => YD w X k ∨ k = q) g dg nn most (t + 1025) D' L' ∧ Keep (YD w X) (wD w cs) w' := by
    have hno : CS w0 (wD w cs) (YD w X) g dg nn most t D L → CS w0 (wD w cs) (fun k => YD w X k ∨ k = w.heap.size) g dg nn most (t + 1025) D L := fun hc => (hc.less fun k hk => by
      rcases hk with hk | hk
      · exact hk
      · exact .inr (by omega)).mono (by omega)
    by_cases hin : 0 ≤ o.s ∧ o.s < nn
    · obtain ⟨s, hs⟩ : ∃ s : Nat, o.s = s := ⟨o.s.toNat, by omega⟩
      rw [hs]
      refine (hd.read (s := s) (by omega) (by omega)).mono ?_
      rintro en w' (⟨rfl, hst, hc, hkp⟩ | ⟨D', L', y, q, c, rfl, hb, hrw, hq, hc, hkp⟩)
      · refine ⟨none, 0, 0, 3, [], D, L, w.heap.size, rfl, ⟨Did.same (.inr (by omega)) (fun e => by omega) (by omega) (fun hp _ => ?_), fun _ _ => rfl⟩, ⟨rfl, Nat.le_refl _, by omega, Nat.zero_le _⟩, Bytes.nil _ _, (fun h0 => by omega), Nat.le_refl _, (hc.less fun k hk => by
          rcases hk with hk | hk
          · exact hk
          · exact .inr (by omega)).mono (by omega), hkp⟩
        exfalso
        have h1 := hst.1.1
        have h2 := h.pos
        match L, h1, hp, hst.1.2 with
        | [], h1, _, _ => simp at h1; omega
        | x :: _, _, hp, hs => exact hs x (by simp) (hp x (by simp))
      · obtain ⟨st', hw, hyb, hy, _⟩ := hb.sta h.st (by omega) h.pos
        rw [wD_size] at hq
        refine ⟨some ⟨q, 0, none⟩, 256, c, 0, y.b, D', L', q, rfl, ⟨⟨fun j => by rw [if_neg (fun e => by omega)]; exact hw j, fun _ _ => hin, fun h' => by omega, fun _ _ => by rw [hyb, hs, Int.toNat_natCast], fun h' => by omega, fun hp _ => ⟨fun x hx => ?_, by rw [if_pos hk, if_pos hin]⟩⟩, fun _ h' => absurd rfl h'⟩, ⟨hrw.long, hrw.le, Nat.le_refl _, hrw.max⟩, hrw.bytes, fun _ => ⟨hq, rfl, hrw.mut⟩, by omega, hc.mono (by omega), hkp⟩
        rcases hb with ⟨z, hz, _, ey, _, rfl⟩ | ⟨_, L1, hr, ey, rfl⟩
        · rcases updL_mem hx with ⟨rfl, _⟩ | ⟨hx, _⟩
          · rw [ey]; exact hp z hz
          · exact hp x hx
        · rcases List.mem_append.1 hx with hx | hx
          · exact hp x (hr.sub x hx)
          · rw [List.mem_singleton.1 hx, ey]
    · refine (hd.read_bad o.s (by omega)).mono ?_
      rintro en w' ⟨rfl, rfl⟩
      exact ⟨none, 0, 0, 1, [], D, L, w.heap.size, rfl, ⟨Did.same (.inr (by omega)) (fun e => by omega) (by omega) (fun _ _ => by rw [if_pos hk, if_neg hin]), fun _ _ => rfl⟩, ⟨rfl, Nat.le_refl _, by omega, Nat.zero_le _⟩, Bytes.nil _ _, (fun h0 => by omega), Nat.le_refl _, hno hd, ⟨Nat.le_refl _, fun _ _ => rfl⟩⟩
  have HC := Lib.hid hcall
  have HD := Lib.hid (And.intro h (And.intro hd hz))
  rw [hk] at e0
  generalize o.B.length = x at *
  generalize o.K.length = y at *
  generalize o.torn = tn at *
  clear hcall h hd hk
  subst e0 e1 e2 e3 e4
  subst hcs
  obtain ⟨s, hs⟩ : ∃ s, o.s = s := ⟨_, rfl⟩
  rw [hs] at HC hz HD ⊢
  clear hs
  go_enter Try.func13, Try.ntmps13
  go_wp2_with fail
  refine HC.out.mono ?_
  rintro en w1 ⟨A1, len, c1, e, bs, D', L', q, rfl, hdid, ⟨hl1, hl2, hl3, hl4⟩, hby, hmu, hq, hc, hkp⟩
  have HT := Lib.hid (twin_any A1 len c1 bs w1 hl1 (by omega) hby)
  have HF := Lib.hid (And.intro hdid (And.intro hmu (And.intro hq (And.intro hc (And.intro hkp (hz.keep hkp))))))
  clear hdid hl1 hby hmu hq hc hkp hz HC hs1 hs2
  go_wp2_with fail
  refine HT.out.mono ?_
  rintro en w2 ⟨A2, c2, rfl, ho, hb2⟩
  have hz2 := HF.out.2.2.2.2.2.below hb2
  have x0 := hz2.x.cell 0
  have x1 := hz2.x.cell 1
  have x2 := hz2.x.cell 2
  have xf := hz2.x.frozen
  have hw1 : (wD w #[.int .i64 0, .int .i64 s, .slice A x c, .slice K y d, .int .i64 tn]).heap.size = w.heap.size + 3 := wD_size w _
  have hk1 := HF.out.2.2.2.2.1.size
  rw [hw1] at hk1
  obtain ⟨q2, hq2a, hq2b, hq2c⟩ : ∃ q2, (∀ p : Addr, A2 = some p → p.block = q2 ∧ w.heap.size + 3 ≤ p.block) ∧ w.heap.size ≤ q2 ∧ ((YD w X q2 ∨ q2 = q) ∨ (w1.heap.size ≤ q2 ∧ q2 < w2.heap.size)) := by
    cases hA2 : A2 with
    | none => exact ⟨w.heap.size, (fun p e => by cases e), Nat.le_refl _, .inl (.inl (.inr ⟨Nat.le_refl _, by omega⟩))⟩
    | some a =>
      have h9 := ho.blk a hA2
      exact ⟨a.block, (fun p e => by cases e; exact ⟨rfl, by omega⟩), by omega, .inr h9⟩
  have hS : LpI w0 w (((w2.setCell ⟨w.heap.size + 1 + 1, 0, none⟩ (.slice A2 len c2)).setCell ⟨w.heap.size + 1 + 1, 1, none⟩ (.bool false)).setCell ⟨w.heap.size + 1 + 1, 2, none⟩ (.int .i64 e)) X (fun k => (YD w X k ∨ k = q) ∨ (w1.heap.size ≤ k ∧ k < w2.heap.size)) g dg nn most (t + 1025) D' L' q len #[.slice A2 len c2, .bool false, .int .i64 e] A2 bs :=
    LpI.start HD.out.1.bel.size HD.out.1.lt hz2 (HF.out.2.2.2.1.more hb2 _ fun k hk => hk) ⟨by have := hb2.size; omega, fun k hk => (hb2.block k (by have := HD.out.1.lt k hk; omega)).trans ((HF.out.2.2.2.2.1.at_ k (.inl hk)).trans ((wD_below w _).block k (HD.out.1.lt k hk)))⟩
      (fun h0 => (HF.out.2.1 h0).2.2.same hb2.size (hb2.block _ (HF.out.2.1 h0).2.2.lt)) (fun h0 => (HF.out.2.1 h0).1) ho.bytes (fun p e => (hq2a p e).2) (.inl (.inl (.inr ⟨by omega, by omega⟩))) (off3 _ _ _ _ _ _ _ _) (((hz2.x.set_ 0 _).set_ 1 _).set_ 2 _)
  have HS := Lib.hid hS
  have HA1 : Hid (0 < len → A1 = some ⟨q, 0, none⟩) := Lib.hid (fun h0 => (HF.out.2.1 h0).2.1)
  have HNE : Hid (0 < len → ∀ p : Addr, A2 = some p → p.block ≠ q) := Lib.hid (fun h0 p e => by have h9 := (ho.blk p e).1; have := (HF.out.2.1 h0).2.2.lt; omega)
  have HG := Lib.hid (And.intro HF.out.1 (And.intro ho.long (And.intro hq2a (And.intro hq2b (And.intro hq2c (And.intro HF.out.2.1 HD.out.1))))))
  clear hS ho hb2 hz2 hq2a hq2b hq2c hw1 hk1 HF HD HT
  go_wp2_with fail
  go_loopw [10] (fun iv wr => ∃ i : Nat, i ≤ len ∧ iv = .int .i64 (i : Int) ∧ Hid (LpI w0 w wr X (fun k => (YD w X k ∨ k = q) ∨ (w1.heap.size ≤ k ∧ k < w2.heap.size)) g dg nn most (t + 1025) D' L' q len #[.slice A2 len c2, .bool false, .int .i64 e] A2 bs)) (fun iv _ => len - (intOf iv).toNat)
  case atStart => exact ⟨0, Nat.zero_le _, rfl, HS⟩
  case round =>
    clear HS x0 x1 x2 xf
    obtain ⟨i, hi, rfl, hI⟩ := hrel
    by_cases hlt : i < len
    · have hd : decide ((i : Int) < (len : Int)) = true := by simpa using hlt
      have hA := HA1.out (by omega)
      subst hA
      have hmu := hI.out.mu (by omega)
      obtain ⟨b, hcb⟩ := hmu.cell i hlt
      have hfb := hmu.free i hlt
      have HI2 := Lib.hid (hI.out.step (HG.out.2.2.2.2.2.1 (by omega)).1 (.inl (.inr rfl)) (fun p e => HNE.out (by omega) p e) HG.out.2.2.2.2.2.2.bel.size HG.out.2.2.2.2.2.2.lt (by omega) i 85)
      unfold bv at hcb
      clear hmu hI
      go_wp2_with fail
      go_roundw
      case rel => exact ⟨i + 1, by omega, by go_num, HI2⟩
      case measure => simp [intOf]; omega
    · obtain rfl : len = i := by omega
      have hd : decide ((len : Int) < (len : Int)) = false := by simp
      have r0 := hI.out.r.cell 0
      have r1 := hI.out.r.cell 1
      have r2 := hI.out.r.cell 2
      have rf := hI.out.r.frozen
      have y0 := hI.out.x.cell 0
      have y1 := hI.out.x.cell 1
      have y2 := hI.out.x.cell 2
      have HI := Lib.hid hI.out
      clear hI
      go_wp2_with fail
      have HB6 := ((HI.out.r.set_ 0 (.slice A2 len c2)).set_ 1 (.bool false)).set_ 2 (.int .i64 e)
      refine bodyPost_ret (results_cell_row rfl _ _ (w.heap.size + 1) 39 _ (0, 0) _ rfl HB6 Try.underlying39 rfl (by kernel_rfl)) rfl ?_
      obtain ⟨g1, g2, g3, g4, g5, g6, g7⟩ := HG.out
      exact HI.out.finF g7.bel.size g7.lt (off3 _ _ _ _ _ _ _ _) g1 g2 g3 g4 g5 (fun k hk => .inl (.inl (.inl hk))) (.inl (.inl (.inr ⟨by omega, by omega⟩))) false
theorem CS.does_anyF (h : CS w0 w X g dg nn most t D L) {v0 v1 v2 v3 v4 : Value} {o : Ov} (hv : OpV w v0 v1 v2 v3 v4 o) (hk : o.kind = 0 ∨ o.kind = 1 ∨ o.kind = 4 ∨ o.kind = 6) (ht : t < 800000) (hB : o.B.length ≤ 1024) :
    Calls Try.prog 13 #[.pointer (some ⟨g, 0, none⟩), .pointer (some ⟨dg, 0, none⟩), .agg #[v0, v1, v2, v3, v4]] w (fun en w' => DidF w0 w w' X g dg nn most t D L o en) := by
  by_cases h0 : o.kind = 0
  · exact h.does_readF hv h0 ht
  · exact (h.does_any hv (by omega) ht hB).mono fun e w' h => h.more h0
end
end Go.Proofs.Ytiemfhncadcemaa
