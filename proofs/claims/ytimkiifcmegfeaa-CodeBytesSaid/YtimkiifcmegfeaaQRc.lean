/- Contracts. -/
import Derived.Test.YtimkiifcmegfeaaQRb
import Derived.Test.YtimkiifcmegfeaaBN
import Derived.Laws.ResultCell
/- code: the reference's Read (written by cdrread.py). -/
namespace Go.Proofs.Ytimkiifcmegfeaa
open Go.RowKit
set_option linter.unusedVariables false
set_option linter.unusedSimpArgs false
attribute [local go_sem] Oper.semAt_some
/-- How the reference's Read ends. -/
def RdP (R : Option Cd) (w : World) (e : Ending) (w' : World) : Prop :=
  Below w.heap.size w w' ∧ match R with
    | none => e = .returned (.tuple #[.agg #[.slice none 0 0, .slice none 0 0], .int .i64 8])
    | some cd => ∃ cl : Cl, cl.cd = cd ∧ e = .returned (.tuple #[.agg #[.slice cl.fA cl.fs.length cl.fc, .slice cl.rA cl.rs.length cl.rc], .int .i64 0]) ∧ cl.At (fun b => w.heap.size ≤ b) w'
theorem RdP.no {R : Option Cd} {w w' : World} {e : Ending} (hR : R = none) (hb : Below w.heap.size w w') (he : e = .returned (.tuple #[.agg #[.slice none 0 0, .slice none 0 0], .int .i64 8])) : RdP R w e w' := by subst hR; exact ⟨hb, he⟩
theorem RdP.yes {R : Option Cd} {w w' : World} {e : Ending} (cl : Cl) (hR : R = some cl.cd) (hb : Below w.heap.size w w') (he : e = .returned (.tuple #[.agg #[.slice cl.fA cl.fs.length cl.fc, .slice cl.rA cl.rs.length cl.rc], .int .i64 0])) (ha : cl.At (fun b => w.heap.size ≤ b) w') : RdP R w e w' := by subst hR; exact ⟨hb, cl, rfl, he, ha⟩
theorem nOk_iff {len a n : Nat} {bd : Bool} : nOk len a n bd = true ↔ bd = false ∧ a + n ≤ len := by
  unfold nOk
  cases bd <;> simp
theorem num_yes {bs : List UInt8} {len a n : Nat} {bd : Bool} (h : (!nOk len a n bd) = false) : bd = false ∧ a + n ≤ len ∧ numV bs len a n bd = leN (fieldOf bs a n) ∧ numA len a n bd = a + n := by
  have h1 : nOk len a n bd = true := by simpa using h
  have h2 := nOk_iff.1 h1
  exact ⟨h2.1, h2.2, if_pos h1, if_pos h1⟩
theorem num_no {bs : List UInt8} {len a n : Nat} {bd : Bool} (h : (!nOk len a n bd) = true) : (bd = true ∨ ¬ a + n ≤ len) ∧ numV bs len a n bd = 0 := by
  have h1 : nOk len a n bd = false := by simpa using h
  refine ⟨?_, if_neg (by rw [h1]; decide)⟩
  rcases Bool.eq_false_or_eq_true bd with e | e
  · exact .inl e
  · refine .inr fun h2 => ?_
    rw [nOk_iff.2 ⟨e, h2⟩] at h1
    cases h1
theorem text_yes' {bs : List UInt8} {len a : Nat} {bd : Bool} (hl : bs.length = len) (h : (!tOk bs len a bd) = false) : bd = false ∧ rdT bs a = some (tV bs len a bd, tA bs len a bd) := by
  have h1 : tOk bs len a bd = true := by simpa using h
  have h0 := h1
  unfold tOk at h1
  rw [Bool.and_eq_true] at h1
  have h2 := nOk_iff.1 h1.1
  have h3 := of_decide_eq_true h1.2
  refine ⟨h2.1, ?_⟩
  unfold rdT tV tA
  rw [hl, if_pos ⟨h2.2, h3⟩, if_pos h0, if_pos h0]
theorem text_no' {bs : List UInt8} {len a : Nat} {bd : Bool} (hl : bs.length = len) (h : (!tOk bs len a bd) = true) : bd = true ∨ rdT bs a = none := by
  rcases Bool.eq_false_or_eq_true bd with e | e
  · exact .inl e
  · refine .inr (rdT_no _ fun h2 => ?_)
    have h1 : tOk bs len a bd = false := by simpa using h
    unfold tOk at h1
    rw [hl] at h2
    rw [nOk_iff.2 ⟨e, h2.1⟩, decide_eq_true h2.2] at h1
    cases h1
/-- One instruction. -/
theorem ins_read {bs : List UInt8} {len a a1 a2 a3 a4 a5 n0 n1 n2 n3 : Nat} {b1 b2 b3 b4 b5 : Bool} {tx : List UInt8} (hl : bs.length = len)
    (e1 : numV bs len a 1 false = n0 ∧ numA len a 1 false = a1 ∧ (!nOk len a 1 false) = b1)
    (e2 : numV bs len a1 8 b1 = n1 ∧ numA len a1 8 b1 = a2 ∧ (!nOk len a1 8 b1) = b2)
    (e3 : numV bs len a2 8 b2 = n2 ∧ numA len a2 8 b2 = a3 ∧ (!nOk len a2 8 b2) = b3)
    (e4 : numV bs len a3 8 b3 = n3 ∧ numA len a3 8 b3 = a4 ∧ (!nOk len a3 8 b3) = b4)
    (e5 : tV bs len a4 b4 = tx ∧ tA bs len a4 b4 = a5 ∧ (!tOk bs len a4 b4) = b5) :
    (b5 = false → rdI bs a = some (⟨n0, IntKind.i64.wrap (n1 : Int), IntKind.i64.wrap (n2 : Int), IntKind.i64.wrap (n3 : Int), tx⟩, a5) ∧ a + 29 ≤ a5) ∧ (b5 = true → rdI bs a = none) := by
  refine ⟨fun h5 => ?_, fun h5 => ?_⟩
  · rw [h5] at e5
    have t := text_yes' hl e5.2.2
    rw [t.1] at e4 e5
    have q4 := num_yes (bs := bs) e4.2.2
    rw [q4.1] at e3 e4
    have q3 := num_yes (bs := bs) e3.2.2
    rw [q3.1] at e2 e3
    have q2 := num_yes (bs := bs) e2.2.2
    rw [q2.1] at e1 e2
    have q1 := num_yes (bs := bs) e1.2.2
    rw [q1.1] at *
    rw [q2.1] at *
    rw [q3.1] at *
    rw [q4.1] at *
    have f1 : a1 = a + 1 := by rw [← e1.2.1, q1.2.2.2]
    have f2 : a2 = a + 9 := by rw [← e2.2.1, q2.2.2.2, f1]
    have f3 : a3 = a + 17 := by rw [← e3.2.1, q3.2.2.2, f2]
    have f4 : a4 = a + 25 := by rw [← e4.2.1, q4.2.2.2, f3]
    have ht := t.2
    rw [t.1, e5.1, e5.2.1, f4] at ht
    have g0 : n0 = leN (fieldOf bs a 1) := by rw [← e1.1, q1.2.2.1]
    have g1 : n1 = leN (fieldOf bs (a + 1) 8) := by rw [← e2.1, q2.2.2.1, f1]
    have g2 : n2 = leN (fieldOf bs (a + 9) 8) := by rw [← e3.1, q3.2.2.1, f2]
    have g3 : n3 = leN (fieldOf bs (a + 17) 8) := by rw [← e4.1, q4.2.2.1, f3]
    unfold rdT at ht
    split at ht
    · rename_i hc
      simp only [Option.some.injEq, Prod.mk.injEq] at ht
      unfold rdI numI
      rw [if_pos ⟨by omega, by omega⟩, ← g0, ← g1, ← g2, ← g3]
      rw [show a + 25 + 4 = a + 29 by omega] at ht
      rw [ht.1, ht.2]
      exact ⟨rfl, by omega⟩
    · cases ht
  · rw [h5] at e5
    refine rdI_no _ fun hc => ?_
    have q1 : nOk len a 1 false = true := nOk_iff.2 ⟨rfl, by omega⟩
    have f1 : a1 = a + 1 := by rw [← e1.2.1]; exact if_pos q1
    have c1 : b1 = false := by rw [← e1.2.2, q1]; rfl
    have q2 : nOk len a1 8 b1 = true := nOk_iff.2 ⟨c1, by omega⟩
    have f2 : a2 = a + 9 := by rw [← e2.2.1]; unfold numA; rw [if_pos q2]; omega
    have c2 : b2 = false := by rw [← e2.2.2, q2]; rfl
    have q3 : nOk len a2 8 b2 = true := nOk_iff.2 ⟨c2, by omega⟩
    have f3 : a3 = a + 17 := by rw [← e3.2.1]; unfold numA; rw [if_pos q3]; omega
    have c3 : b3 = false := by rw [← e3.2.2, q3]; rfl
    have q4 : nOk len a3 8 b3 = true := nOk_iff.2 ⟨c3, by omega⟩
    have f4 : a4 = a + 25 := by rw [← e4.2.1]; unfold numA; rw [if_pos q4]; omega
    have c4 : b4 = false := by rw [← e4.2.2, q4]; rfl
    rcases text_no' hl e5.2.2 with e | e
    · rw [c4] at e; cases e
    · rw [f4] at e
      unfold rdT at e
      rw [if_pos ⟨by omega, by omega⟩] at e
      cases e
/-- One root. -/
theorem root_read {bs : List UInt8} {len a a1 a2 : Nat} {b1 b2 : Bool} {s1 s2 : List UInt8} (hl : bs.length = len)
    (e1 : tV bs len a false = s1 ∧ tA bs len a false = a1 ∧ (!tOk bs len a false) = b1)
    (e2 : tV bs len a1 b1 = s2 ∧ tA bs len a1 b1 = a2 ∧ (!tOk bs len a1 b1) = b2) :
    (b2 = false → rdR bs a = some ((s1, s2), a2) ∧ a + 8 ≤ a2) ∧ (b2 = true → rdR bs a = none) := by
  have hadv : ∀ {x : List UInt8} {k k' : Nat}, rdT bs k = some (x, k') → k + 4 ≤ k' := fun {x k k'} h => by
    unfold rdT at h
    split at h
    · simp only [Option.some.injEq, Prod.mk.injEq] at h; omega
    · cases h
  refine ⟨fun h2 => ?_, fun h2 => ?_⟩
  · rw [h2] at e2
    have t2 := text_yes' hl e2.2.2
    rw [t2.1] at e1 e2
    have t1 := text_yes' hl e1.2.2
    have r1 := t1.2
    have r2 := t2.2
    rw [e1.1, e1.2.1] at r1
    rw [t2.1, e2.1, e2.2.1] at r2
    have h3 := hadv r1
    have h4 := hadv r2
    exact ⟨rdR_yes _ r1 r2, by omega⟩
  · rw [h2] at e2
    rcases Bool.eq_false_or_eq_true b1 with e | e
    · rw [e] at e1
      rcases text_no' hl e1.2.2 with h | h
      · cases h
      · exact rdR_no1 _ h
    · rw [e] at e1 e2
      have t1 := text_yes' hl e1.2.2
      have r1 := t1.2
      rw [e1.1, e1.2.1] at r1
      rcases text_no' hl e2.2.2 with h | h
      · cases h
      · exact rdR_no2 _ r1 h
section
variable {w : World} {qc qe rb B : Nat} {A : Option Addr} {len cap : Nat} {bs : List UInt8} {a c : Nat} {bd : Bool} {fv rv v : Value} {fs : List Fe} {rs : List (List UInt8 × List UInt8)} {X : Nat → Prop} {is : List Ins} {wx : World}
theorem RK.put (h : RK w qc qe rb B A len cap bs a bd fv rv fs rs X wx) {g : Nat} (hg : B ≤ g ∧ fv.ownBlock ≠ some g ∧ rv.ownBlock ≠ some g ∧ ¬ X g) (i : Nat) (u : Value) : RK w qc qe rb B A len cap bs a bd fv rv fs rs X (wx.setCell ⟨g, i, none⟩ u) := by
  have hl := h.lt
  exact h.off (Off.setc wx g i u) (h.r.off (Off.setc wx g i u) (by show rb ≠ g; omega) (fun p hp e => by have := h.src p hp; omega)) (Nat.le_refl _) fun k hk => .inr (hk ▸ hg)
theorem FJ.put (h : FJ B c fv rv X v is wx) {g : Nat} (hv : v.ownBlock ≠ some g) (i : Nat) (u : Value) : FJ B c fv rv X v is (wx.setCell ⟨g, i, none⟩ u) := h.off (Off.setc wx g i u) (Nat.le_refl _) fun k hk e => hv (e ▸ hk)
end
theorem RK.done {w : World} {qc qe rb B : Nat} {A : Option Addr} {len cap : Nat} {bs : List UInt8} {a : Nat} {bd : Bool} {Af Ar : Option Addr} {cf cr : Nat} {fs : List Fe} {rs : List (List UInt8 × List UInt8)} {X : Nat → Prop} {wx : World} (h : RK w qc qe rb B A len cap bs a bd (.slice Af fs.length cf) (.slice Ar rs.length cr) fs rs X wx) (v0 v1 : Value) :
    Blk ((wx.setCell ⟨qe, 0, none⟩ v0).setCell ⟨qe, 1, none⟩ v1) qe 25 #[v0, v1] ∧ Below w.heap.size w ((wx.setCell ⟨qe, 0, none⟩ v0).setCell ⟨qe, 1, none⟩ v1) ∧
    Cl.At (fun b => w.heap.size ≤ b) ((wx.setCell ⟨qe, 0, none⟩ v0).setCell ⟨qe, 1, none⟩ v1) ⟨fs, Af, cf, rs, Ar, cr⟩ := by
  have hl := h.lt
  have ho : Off (fun k => k = qe) wx ((wx.setCell ⟨qe, 0, none⟩ v0).setCell ⟨qe, 1, none⟩ v1) := (Off.setc wx qe 0 v0).trans (Off.setc _ qe 1 v1)
  have hcap : ∀ {e : TypeId} {s : Nat} {A : Option Addr} {n c : Nat} {xs : List Value}, wx.ownsRow B e s (.slice A n c) n xs → n ≤ c ∧ c ≤ maxLen := fun {e s A n c xs} h => by
    rcases h.2 with ⟨e, e0⟩ | ⟨g, cap', cur, e, _, _, h3, h4, _⟩
    · injection e with e1 e2 e3
      subst e3
      exact ⟨by omega, Nat.zero_le _⟩
    · injection e with e1 e2 e3
      subst e3
      exact ⟨h3, h4⟩
  have hfr := row_own (cl := Fe.cells) h.fo rfl (fun _ => rfl) (fun m x j u hx hj => by
    rcases j with _ | j
    · rw [Nat.mul_one, Nat.add_zero, List.getElem?_map, hx]; exact hj
    · simp [Fe.cells] at hj)
  have hrr := row_own (cl := rtCells) h.ro rfl (fun _ => rfl) (fun m x j u hx hj => rtl_get rs m x j u hx hj)
  have hX : ∀ b : Nat, (B ≤ b) → ¬ (b = qe) := fun b hb e => by omega
  have F1 : FsAt (fun b => B ≤ b) wx Af fs := ⟨hfr.mono fun b _ hb => (h.fo.lt b hb).1, fun f hf => (h.ff f hf).mono fun b _ hb => (h.x b hb).2.1⟩
  have R1 : RsAt (fun b => B ≤ b) wx Ar rs := ⟨hrr.mono fun b _ hb => (h.ro.lt b hb).1, h.rk⟩
  refine ⟨by simpa using Blk.set_ (Blk.set_ h.e 0 v0) 1 v1, h.b.trans (ho.below h.b.size fun k e => by omega), (F1.off ho hX).mono fun b _ hb => ?_, (R1.off ho hX).mono fun b _ hb => ?_, hcap h.fo, hcap h.ro⟩
  · have : B ≤ b := hb; show w.heap.size ≤ b; omega
  · have : B ≤ b := hb; show w.heap.size ≤ b; omega
theorem results_cell_tmp_row {P : Program} {fn : Func} {p u : Tmp} {ty : TypeId} (h : fn.results = #[.cell p ty, .tmp u]) (tmps : Array Value) (w : World) (g : Nat) (t : TypeId) (cs : Array Value) (fr : Nat × Nat) (d : TypeDesc)
    (hp : tmps.getD p undef = .pointer (some ⟨g, 0, none⟩)) (hg : w.heap[g]? = some (.cells cs t fr))
    (hu : P.underlying ty = some d) (hd : (match d with | .struct _ | .array _ _ => true | _ => false) = true) (hi : (P.info? ty).map (·.size) = some cs.size) :
    (results fn tmps).run P w = .ok (.tuple #[.agg cs, tmps.getD u undef]) w := by
  rw [results_cell_tmp h]
  have hp' : tmps[p]?.getD undef = .pointer (some ⟨g, 0, none⟩) := by simpa using hp
  simp [hp', asAddr, run_loadVar_row w g t ty cs fr d hg hu hd hi, Result.andThen]
set_option maxRecDepth 20000 in
theorem code_size : (Try.prog.info? 25).map (·.size) = some 2 := by kernel_rfl
set_option maxRecDepth 20000 in
set_option maxHeartbeats 8000000 in
theorem rread_any (A : Option Addr) (len cap : Nat) (bs : List UInt8) (w : World) (hl : bs.length = len) (hlx : len ≤ 100000) (hA : Bytes w A bs) (hAw : ∀ p : Addr, A = some p → p.block < w.heap.size) :
    Calls Try.prog 15 #[.slice A len cap] w fun e w' => RdP (readB bs) w e w' := by
  obtain ⟨R, hR⟩ : ∃ z, readB bs = z := ⟨_, rfl⟩
  rw [hR]
  obtain ⟨qe, hqe⟩ : ∃ z, w.heap.size = z := ⟨_, rfl⟩
  obtain ⟨rb, hrb⟩ : ∃ z, qe + 1 = z := ⟨_, rfl⟩
  obtain ⟨qc, hqc⟩ : ∃ z, rb + 1 = z := ⟨_, rfl⟩
  obtain ⟨B, hB⟩ : ∃ z, qc + 1 = z := ⟨_, rfl⟩
  obtain ⟨w3, hw3⟩ : ∃ V, ((w.alloc (.cells #[.slice none 0 0, .slice none 0 0] 25)).alloc (.cells #[.slice A len cap, .int .i64 0, .bool false] 74)).alloc (.cells #[.slice none 0 0, .slice none 0 0] 25) = V := ⟨_, rfl⟩
  have hb3 : Below w.heap.size w w3 := by rw [← hw3]; exact (((Below.refl _ _).alloc (Nat.le_refl _) _).alloc (by simp) _).alloc (by simp; omega) _
  have E3 : Blk w3 qe 25 #[.slice none 0 0, .slice none 0 0] := by rw [← hw3, ← hqe]; exact ((Blk.new _ _ _).alloc _).alloc _
  have R3 : Blk w3 rb 74 #[.slice A len cap, .int .i64 0, .bool false] := by
    rw [← hw3, ← hrb, ← hqe]
    have h9 := Blk.new (w.alloc (.cells #[.slice none 0 0, .slice none 0 0] 25)) 74 #[.slice A len cap, .int .i64 0, .bool false]
    rw [World.size_alloc] at h9
    exact h9.alloc _
  have C3 : Blk w3 qc 25 #[.slice none 0 0, .slice none 0 0] := by
    rw [← hw3, ← hqc, ← hrb, ← hqe]
    have h9 := Blk.new ((w.alloc (.cells #[.slice none 0 0, .slice none 0 0] 25)).alloc (.cells #[.slice A len cap, .int .i64 0, .bool false] 74)) 25 #[.slice none 0 0, .slice none 0 0]
    rw [World.size_alloc, World.size_alloc] at h9
    exact h9
  have hs3 : w3.heap.size = B := by rw [← hw3, World.size_alloc, World.size_alloc, World.size_alloc]; omega
  have J3 : RK w qc qe rb B A len cap bs 0 false (.slice none 0 0) (.slice none 0 0) [] [] (fun _ => False) w3 := ⟨⟨R3, hA.below hb3, ⟨hl, by omega⟩, Nat.zero_le _, fun p hp => by have := hAw p hp; omega⟩, C3, E3, World.ownsRow_nil _ _ _ _, World.ownsRow_nil _ _ _ _, fun f hf => (by cases hf), fun f hf => (by cases hf), fun k hk => hk.elim, fun k hk => (by cases hk), by omega, hb3, hAw, ⟨Nat.zero_le _, Nat.zero_le _⟩⟩
  have HJ := Lib.hid J3
  have HW3 := Lib.hid (And.intro hqe (And.intro hrb (And.intro hqc hw3)))
  have HI := Lib.hid (And.intro hR (And.intro hl hlx))
  have HLT : Hid (qe < rb ∧ rb < qc ∧ qc < B ∧ w.heap.size = qe) := Lib.hid ⟨by omega, by omega, by omega, hqe⟩
  obtain ⟨n1, hn1⟩ : ∃ z, numV bs len 0 4 false = z := ⟨_, rfl⟩
  obtain ⟨a1, ha1⟩ : ∃ z, numA len 0 4 false = z := ⟨_, rfl⟩
  obtain ⟨b1, hb1⟩ : ∃ z, (!nOk len 0 4 false) = z := ⟨_, rfl⟩
  have hN := rdnum_any rb len cap 0 4 false A bs w3 J3.r (by decide)
  rw [hn1, ha1, hb1] at hN
  have hn14 : n1 < 4294967296 := by rw [← hn1]; exact numV_le bs len 0 false
  have hcv : IntKind.i64.wrap (n1 : Int) = (n1 : Int) := IntWalk.i64_in _ ⟨by omega, by omega⟩
  have HN := Lib.hid hN
  have HK : Hid ((b1 = false → kFs bs n1 a1 [] = R) ∧ (b1 = true → R = none)) := Lib.hid ⟨fun h => by
    rw [h] at hb1
    have q := num_yes (bs := bs) hb1
    rw [← hR, read_4 (by omega), ← hn1, q.2.2.1, ← ha1, q.2.2.2], fun h => by
    rw [h] at hb1
    have q := num_no (bs := bs) hb1
    rcases q.1 with e | e
    · cases e
    · rw [← hR, read_0 (by omega)]⟩
  clear hR hqe hrb hqc hB hw3 hb3 E3 R3 C3 hs3 J3 hn1 ha1 hb1 hN hl hA hAw
  go_enter Try.func15, Try.ntmps15
  go_upto_region 3 with fail
  rw [HW3.out.1, HW3.out.2.1, HW3.out.2.2.1, HW3.out.2.2.2]
  go_wp2_with fail
  refine HN.out.mono ?_
  rintro e w4 ⟨rfl, hr4, ho4⟩
  have HJ4 := Lib.hid (And.intro (HJ.out.rd ho4 hr4 (Nat.zero_le _)) HK.out)
  clear hr4 ho4 HN HJ HK
  go_wp2_with fail
  go_loopw [7] (fun v7 wr => ∃ (i a : Nat) (bd : Bool) (Af : Option Addr) (cf : Nat) (fs : List Fe) (X : Nat → Prop), i ≤ n1 ∧ v7 = .int .i64 (i : Int) ∧ Hid (RK w qc qe rb B A len cap bs a bd (.slice Af fs.length cf) (.slice none 0 0) fs [] X wr ∧ (bd = false → kFs bs (n1 - i) a (fs.map Fe.is) = R ∧ fs.length ≤ a) ∧ (bd = true → R = none))) (fun v7 _ => n1 - (intOf v7).toNat)
  case atStart => exact ⟨0, a1, b1, none, 0, [], _, Nat.zero_le _, rfl, Lib.hid ⟨HJ4.out.1, fun h => ⟨HJ4.out.2.1 h, Nat.zero_le _⟩, HJ4.out.2.2⟩⟩
  case round =>
    clear HJ4
    obtain ⟨i, a, bd, Af, cf, fs, X, hi, rfl, HJ⟩ := hrel
    obtain ⟨w5, rfl⟩ : ∃ v, v = wr := ⟨_, rfl⟩
    have r2 : w5.cell? ⟨rb, 2, none⟩ = some (.bool bd) := HJ.out.1.r.blk.cell 2
    by_cases hgo : i < n1 ∧ bd = false
    · obtain ⟨hlt, rfl⟩ := hgo
      have hd : decide ((i : Int) < (n1 : Int)) = true := decide_eq_true (by omega)
      obtain ⟨n2, hn2⟩ : ∃ z, numV bs len a 4 false = z := ⟨_, rfl⟩
      obtain ⟨a2, ha2⟩ : ∃ z, numA len a 4 false = z := ⟨_, rfl⟩
      obtain ⟨b2, hb2⟩ : ∃ z, (!nOk len a 4 false) = z := ⟨_, rfl⟩
      have hN := rdnum_any rb len cap a 4 false A bs w5 HJ.out.1.r (by decide)
      rw [hn2, ha2, hb2] at hN
      have hn24 : n2 < 4294967296 := by rw [← hn2]; exact numV_le bs len a false
      have hcv2 : IntKind.i64.wrap (n2 : Int) = (n2 : Int) := IntWalk.i64_in _ ⟨by omega, by omega⟩
      have hal := numA_le (len := len) (n := 4) (bd := false) HJ.out.1.r.le
      rw [ha2] at hal
      obtain ⟨k1, hk1⟩ : ∃ z, n1 - i = z + 1 := ⟨n1 - i - 1, by omega⟩
      have HK : Hid ((b2 = false → kIs bs k1 n2 a2 (fs.map Fe.is) [] = R ∧ a + 4 ≤ a2) ∧ (b2 = true → R = none) ∧ fs.length ≤ a ∧ n1 - i = k1 + 1) := Lib.hid (by
        have h1 := HJ.out.2.1 (by first | rfl | trivial)
        rw [hk1] at h1
        refine ⟨fun h => ?_, fun h => ?_, h1.2, hk1⟩
        · rw [h] at hb2
          have q := num_yes (bs := bs) hb2
          rw [← h1.1, kFs_yes _ _ _ (by rw [HI.out.2.1]; exact q.2.1), ← hn2, q.2.2.1, ← ha2, q.2.2.2]
          exact ⟨rfl, Nat.le_refl _⟩
        · rw [h] at hb2
          have q := num_no (bs := bs) hb2
          rcases q.1 with e | e
          · cases e
          · rw [← h1.1]; exact kFs_no _ _ _ (by rw [HI.out.2.1]; exact e))
      have HN := Lib.hid hN
      have HAL := Lib.hid hal
      clear hN hn2 ha2 hb2 hal hk1
      go_wp2_with fail
      refine HN.out.mono ?_
      rintro e w6 ⟨rfl, hr6, ho6⟩
      have HJ6 : Hid (RK w qc qe rb B A len cap bs a2 b2 (.slice Af fs.length cf) (.slice none 0 0) fs [] X w6 ∧ FJ B (a2 + 1) (.slice Af fs.length cf) (.slice none 0 0) X (.slice none 0 0) [] w6) := Lib.hid ⟨HJ.out.1.rd ho6 hr6 HAL.out.1, ⟨World.ownsRow_nil _ _ _ _, fun k hk => by (cases hk), fun j hj => by (cases hj), Nat.zero_le _⟩⟩
      clear hr6 ho6 HN HJ r2
      go_wp2_with fail
      go_loopw [8, 10] (fun v8 v10 wr => ∃ (j a3 : Nat) (b3 : Bool) (Av : Option Addr) (cv : Nat) (is : List Ins), j ≤ n2 ∧ v10 = .int .i64 (j : Int) ∧ v8 = .slice Av is.length cv ∧ Hid (RK w qc qe rb B A len cap bs a3 b3 (.slice Af fs.length cf) (.slice none 0 0) fs [] X wr ∧ FJ B (a3 + 1) (.slice Af fs.length cf) (.slice none 0 0) X (.slice Av is.length cv) is wr ∧ (b3 = false → kIs bs k1 (n2 - j) a3 (fs.map Fe.is) is = R ∧ is.length ≤ a3 ∧ a + 4 ≤ a3) ∧ (b3 = true → R = none) ∧ a ≤ a3)) (fun _ v10 _ => n2 - (intOf v10).toNat)
      case atStart => exact ⟨0, a2, b2, none, 0, [], Nat.zero_le _, rfl, rfl, Lib.hid ⟨HJ6.out.1, HJ6.out.2, fun h => ⟨(HK.out.1 h).1, Nat.zero_le _, (HK.out.1 h).2⟩, HK.out.2.1, HAL.out.1⟩⟩
      case round =>
        clear HJ6
        obtain ⟨j, a3, b3, Av, cv, is, hj, rfl, rfl, HJ⟩ := hrel
        obtain ⟨w6, rfl⟩ : ∃ v, v = wr := ⟨_, rfl⟩
        have r2 : w6.cell? ⟨rb, 2, none⟩ = some (.bool b3) := HJ.out.1.r.blk.cell 2
        by_cases hgo : j < n2 ∧ b3 = false
        · obtain ⟨hlj, rfl⟩ := hgo
          have hd2 : decide ((j : Int) < (n2 : Int)) = true := decide_eq_true (by omega)
          obtain ⟨m0, hm0⟩ : ∃ z, numV bs len a3 1 false = z := ⟨_, rfl⟩
          obtain ⟨c1, hc1⟩ : ∃ z, numA len a3 1 false = z := ⟨_, rfl⟩
          obtain ⟨d1, hd1⟩ : ∃ z, (!nOk len a3 1 false) = z := ⟨_, rfl⟩
          have hN := rdnum_any rb len cap a3 1 false A bs w6 HJ.out.1.r (by decide)
          rw [hm0, hc1, hd1] at hN
          have hm0 : m0 < 256 := by have := numV_le bs len a3 (n := 1) false; rw [hm0] at this; exact this
          have hw0 : IntKind.u8.wrap (m0 : Int) = (m0 : Int) := by simp [IntKind.wrap, IntKind.bits, IntKind.signed]; omega
          have HE1 : Hid ((numV bs len a3 1 false = m0 ∧ numA len a3 1 false = c1 ∧ (!nOk len a3 1 false) = d1) ∧ a3 ≤ c1) := Lib.hid ⟨⟨by assumption, hc1, hd1⟩, by rw [← hc1]; exact (numA_le HJ.out.1.r.le).1⟩
          have HN := Lib.hid hN
          clear hN hc1 hd1
          go_wp2_with fail
          refine HN.out.mono ?_
          rintro e u0 ⟨rfl, hr, ho⟩
          have hJ0 := HJ.out.1.rd ho hr HE1.out.2
          have hF0 := HJ.out.2.1.rd ho (by have := HJ.out.1.lt; omega) (a' := c1 + 1) (by have := HE1.out.2; omega)
          obtain ⟨xb, hxb⟩ : ∃ z, u0.heap.size = z := ⟨_, rfl⟩
          obtain ⟨t0, ht0⟩ : ∃ V, u0.alloc (.cells #[.int .u8 (m0 : Int), .int .i64 0, .int .i64 0, .int .i64 0, .string ⟨#[]⟩] 46) = V := ⟨_, rfl⟩
          have hbt : Below u0.heap.size u0 t0 := by rw [← ht0]; exact (Below.refl _ _).alloc (Nat.le_refl _) _
          have HXB : Hid (B ≤ xb ∧ (Value.slice Af fs.length cf).ownBlock ≠ some xb ∧ (Value.slice none 0 0).ownBlock ≠ some xb ∧ ¬ X xb ∧ (Value.slice Av is.length cv).ownBlock ≠ some xb ∧ xb ≠ rb) := Lib.hid ⟨by rw [← hxb]; exact hJ0.lt.2.2.2.2, fun e => (by have := (hJ0.fo.lt _ e).2; omega), fun e => (by cases e), fun e => (by have := (hJ0.x _ e).1; omega), fun e => (by have := (hF0.own.lt _ e).2; omega), by have := hJ0.r.blk.lt; omega⟩
          have HT0 : Hid (RK w qc qe rb B A len cap bs c1 d1 (.slice Af fs.length cf) (.slice none 0 0) fs [] X t0 ∧ FJ B (c1 + 1) (.slice Af fs.length cf) (.slice none 0 0) X (.slice Av is.length cv) is t0 ∧ Blk t0 xb 46 #[.int .u8 (m0 : Int), .int .i64 0, .int .i64 0, .int .i64 0, .string ⟨#[]⟩]) := Lib.hid ⟨hJ0.bel hbt, hF0.bel hbt, by rw [← ht0, ← hxb]; exact Blk.new _ _ _⟩
          have HW0 := Lib.hid (And.intro hxb ht0)
          clear hr ho hJ0 hF0 hbt hxb ht0 r2 HN
          go_upto_region 13 with fail
          rw [HW0.out.1, HW0.out.2]
          obtain ⟨m1, hm1⟩ : ∃ z, numV bs len c1 8 d1 = z := ⟨_, rfl⟩
          obtain ⟨c2, hc2⟩ : ∃ z, numA len c1 8 d1 = z := ⟨_, rfl⟩
          obtain ⟨d2, hd2⟩ : ∃ z, (!nOk len c1 8 d1) = z := ⟨_, rfl⟩
          have hN := rdnum_any rb len cap c1 8 d1 A bs t0 HT0.out.1.r (by decide)
          rw [hm1, hc2, hd2] at hN
          obtain ⟨x1, hx1⟩ : ∃ z, IntKind.i64.wrap (m1 : Int) = z := ⟨_, rfl⟩
          have HE2 : Hid ((numV bs len c1 8 d1 = m1 ∧ numA len c1 8 d1 = c2 ∧ (!nOk len c1 8 d1) = d2) ∧ c1 ≤ c2 ∧ IntKind.i64.wrap (m1 : Int) = x1) := Lib.hid ⟨⟨hm1, hc2, hd2⟩, by rw [← hc2]; exact (numA_le HT0.out.1.r.le).1, hx1⟩
          have HN := Lib.hid hN
          clear hN hc2 hd2 hm1
          go_wp2_with fail
          refine HN.out.mono ?_
          rintro e u1 ⟨rfl, hr, ho⟩
          have hJ1 := HT0.out.1.rd ho hr HE2.out.2.1
          have hF1 := HT0.out.2.1.rd ho (by have := HT0.out.1.lt; omega) (a' := c2 + 1) (by have := HE2.out.2.1; omega)
          have hX1 := HT0.out.2.2.off ho HXB.out.2.2.2.2.2
          have z1 : u1.cell? ⟨xb, 1, none⟩ = some (.int .i64 0) := hX1.cell 1
          have y1 := hX1.frozen 1
          obtain ⟨t1, ht1⟩ : ∃ V, u1.setCell ⟨xb, 1, none⟩ (.int .i64 x1) = V := ⟨_, rfl⟩
          have HT1 : Hid (RK w qc qe rb B A len cap bs c2 d2 (.slice Af fs.length cf) (.slice none 0 0) fs [] X t1 ∧ FJ B (c2 + 1) (.slice Af fs.length cf) (.slice none 0 0) X (.slice Av is.length cv) is t1 ∧ Blk t1 xb 46 #[.int .u8 (m0 : Int), .int .i64 x1, .int .i64 0, .int .i64 0, .string ⟨#[]⟩]) := Lib.hid (by rw [← ht1]; exact ⟨hJ1.put ⟨HXB.out.1, HXB.out.2.1, HXB.out.2.2.1, HXB.out.2.2.2.1⟩ _ _, hF1.put HXB.out.2.2.2.2.1 _ _, hX1.set_ 1 _⟩)
          have HW1 := Lib.hid ht1
          clear hr ho hJ1 hF1 hX1 ht1 HN HT0
          go_upto_region 14 with fail
          rw [HW1.out]
          clear z1 y1 hx1
          obtain ⟨m2, hm2⟩ : ∃ z, numV bs len c2 8 d2 = z := ⟨_, rfl⟩
          obtain ⟨c3, hc3⟩ : ∃ z, numA len c2 8 d2 = z := ⟨_, rfl⟩
          obtain ⟨d3, hd3⟩ : ∃ z, (!nOk len c2 8 d2) = z := ⟨_, rfl⟩
          have hN := rdnum_any rb len cap c2 8 d2 A bs t1 HT1.out.1.r (by decide)
          rw [hm2, hc3, hd3] at hN
          obtain ⟨x2, hx2⟩ : ∃ z, IntKind.i64.wrap (m2 : Int) = z := ⟨_, rfl⟩
          have HE3 : Hid ((numV bs len c2 8 d2 = m2 ∧ numA len c2 8 d2 = c3 ∧ (!nOk len c2 8 d2) = d3) ∧ c2 ≤ c3 ∧ IntKind.i64.wrap (m2 : Int) = x2) := Lib.hid ⟨⟨hm2, hc3, hd3⟩, by rw [← hc3]; exact (numA_le HT1.out.1.r.le).1, hx2⟩
          have HN := Lib.hid hN
          clear hN hc3 hd3 hm2
          go_wp2_with fail
          refine HN.out.mono ?_
          rintro e u2 ⟨rfl, hr, ho⟩
          have hJ2 := HT1.out.1.rd ho hr HE3.out.2.1
          have hF2 := HT1.out.2.1.rd ho (by have := HT1.out.1.lt; omega) (a' := c3 + 1) (by have := HE3.out.2.1; omega)
          have hX2 := HT1.out.2.2.off ho HXB.out.2.2.2.2.2
          have z2 : u2.cell? ⟨xb, 2, none⟩ = some (.int .i64 0) := hX2.cell 2
          have y2 := hX2.frozen 2
          obtain ⟨t2, ht2⟩ : ∃ V, u2.setCell ⟨xb, 2, none⟩ (.int .i64 x2) = V := ⟨_, rfl⟩
          have HT2 : Hid (RK w qc qe rb B A len cap bs c3 d3 (.slice Af fs.length cf) (.slice none 0 0) fs [] X t2 ∧ FJ B (c3 + 1) (.slice Af fs.length cf) (.slice none 0 0) X (.slice Av is.length cv) is t2 ∧ Blk t2 xb 46 #[.int .u8 (m0 : Int), .int .i64 x1, .int .i64 x2, .int .i64 0, .string ⟨#[]⟩]) := Lib.hid (by rw [← ht2]; exact ⟨hJ2.put ⟨HXB.out.1, HXB.out.2.1, HXB.out.2.2.1, HXB.out.2.2.2.1⟩ _ _, hF2.put HXB.out.2.2.2.2.1 _ _, hX2.set_ 2 _⟩)
          have HW2 := Lib.hid ht2
          clear hr ho hJ2 hF2 hX2 ht2 HN HT1
          go_upto_region 15 with fail
          rw [HW2.out]
          clear z2 y2 hx2
          obtain ⟨m3, hm3⟩ : ∃ z, numV bs len c3 8 d3 = z := ⟨_, rfl⟩
          obtain ⟨c4, hc4⟩ : ∃ z, numA len c3 8 d3 = z := ⟨_, rfl⟩
          obtain ⟨d4, hd4⟩ : ∃ z, (!nOk len c3 8 d3) = z := ⟨_, rfl⟩
          have hN := rdnum_any rb len cap c3 8 d3 A bs t2 HT2.out.1.r (by decide)
          rw [hm3, hc4, hd4] at hN
          obtain ⟨x3, hx3⟩ : ∃ z, IntKind.i64.wrap (m3 : Int) = z := ⟨_, rfl⟩
          have HE4 : Hid ((numV bs len c3 8 d3 = m3 ∧ numA len c3 8 d3 = c4 ∧ (!nOk len c3 8 d3) = d4) ∧ c3 ≤ c4 ∧ IntKind.i64.wrap (m3 : Int) = x3) := Lib.hid ⟨⟨hm3, hc4, hd4⟩, by rw [← hc4]; exact (numA_le HT2.out.1.r.le).1, hx3⟩
          have HN := Lib.hid hN
          clear hN hc4 hd4 hm3
          go_wp2_with fail
          refine HN.out.mono ?_
          rintro e u3 ⟨rfl, hr, ho⟩
          have hJ3 := HT2.out.1.rd ho hr HE4.out.2.1
          have hF3 := HT2.out.2.1.rd ho (by have := HT2.out.1.lt; omega) (a' := c4 + 1) (by have := HE4.out.2.1; omega)
          have hX3 := HT2.out.2.2.off ho HXB.out.2.2.2.2.2
          have z3 : u3.cell? ⟨xb, 3, none⟩ = some (.int .i64 0) := hX3.cell 3
          have y3 := hX3.frozen 3
          obtain ⟨t3, ht3⟩ : ∃ V, u3.setCell ⟨xb, 3, none⟩ (.int .i64 x3) = V := ⟨_, rfl⟩
          have HT3 : Hid (RK w qc qe rb B A len cap bs c4 d4 (.slice Af fs.length cf) (.slice none 0 0) fs [] X t3 ∧ FJ B (c4 + 1) (.slice Af fs.length cf) (.slice none 0 0) X (.slice Av is.length cv) is t3 ∧ Blk t3 xb 46 #[.int .u8 (m0 : Int), .int .i64 x1, .int .i64 x2, .int .i64 x3, .string ⟨#[]⟩]) := Lib.hid (by rw [← ht3]; exact ⟨hJ3.put ⟨HXB.out.1, HXB.out.2.1, HXB.out.2.2.1, HXB.out.2.2.2.1⟩ _ _, hF3.put HXB.out.2.2.2.2.1 _ _, hX3.set_ 3 _⟩)
          have HW3 := Lib.hid ht3
          clear hr ho hJ3 hF3 hX3 ht3 HN HT2
          go_upto_region 16 with fail
          rw [HW3.out]
          clear z3 y3 hx3
          obtain ⟨tx, htx⟩ : ∃ z, tV bs len c4 d4 = z := ⟨_, rfl⟩
          obtain ⟨c5, hc5⟩ : ∃ z, tA bs len c4 d4 = z := ⟨_, rfl⟩
          obtain ⟨d5, hd5⟩ : ∃ z, (!tOk bs len c4 d4) = z := ⟨_, rfl⟩
          have hN := rdtext_any rb len cap c4 d4 A bs t3 HT3.out.1.r
          rw [htx, hc5, hd5] at hN
          have HE5 : Hid ((tV bs len c4 d4 = tx ∧ tA bs len c4 d4 = c5 ∧ (!tOk bs len c4 d4) = d5) ∧ c4 ≤ c5 ∧ tx.length ≤ len) := Lib.hid ⟨⟨htx, hc5, hd5⟩, by rw [← hc5]; exact (tA_le HT3.out.1.r.le).1, by rw [← htx]; exact tV_len bs len c4 d4 HI.out.2.1⟩
          have HN := Lib.hid hN
          clear hN htx hc5 hd5
          go_wp2_with fail
          refine HN.out.mono ?_
          rintro e u4 ⟨rfl, hr, ho⟩
          have hJ4 := HT3.out.1.rd ho hr HE5.out.2.1
          have hF4 := HT3.out.2.1.rd ho (by have := HT3.out.1.lt; omega) (a' := c5 + 1) (by have := HE5.out.2.1; omega)
          have hX4 := HT3.out.2.2.off ho HXB.out.2.2.2.2.2
          have z4 : u4.cell? ⟨xb, 4, none⟩ = some (.string ⟨#[]⟩) := hX4.cell 4
          have y4 := hX4.frozen 4
          obtain ⟨t4, ht4⟩ : ∃ V, u4.setCell ⟨xb, 4, none⟩ (.string (str tx)) = V := ⟨_, rfl⟩
          have hT4J := hJ4.put ⟨HXB.out.1, HXB.out.2.1, HXB.out.2.2.1, HXB.out.2.2.2.1⟩ 4 (.string (str tx))
          have hT4F := hF4.put HXB.out.2.2.2.2.1 4 (.string (str tx))
          have hT4X : Blk (u4.setCell ⟨xb, 4, none⟩ (.string (str tx))) xb 46 #[.int .u8 (m0 : Int), .int .i64 x1, .int .i64 x2, .int .i64 x3, .string (str tx)] := hX4.set_ 4 _
          rw [ht4] at hT4J hT4F hT4X
          obtain ⟨t5, ht5⟩ : ∃ V, t4.alloc (.cells #[.int .u8 (m0 : Int), .int .i64 x1, .int .i64 x2, .int .i64 x3, .string (str tx)] 46) = V := ⟨_, rfl⟩
          have hb5 : Below t4.heap.size t4 t5 := by rw [← ht5]; exact (Below.refl _ _).alloc (Nat.le_refl _) _
          have B5 : Blk t5 t4.heap.size 46 (Ins.cells ⟨m0, x1, x2, x3, tx⟩).toArray := by rw [← ht5]; exact Blk.new _ _ _
          have hJ5 := hT4J.bel hb5
          have hF5 := hT4F.bel hb5
          have hrd := ins_read HI.out.2.1 HE1.out.1 HE2.out.1 HE3.out.1 HE4.out.1 HE5.out.1
          rw [HE2.out.2.2, HE3.out.2.2, HE4.out.2.2] at hrd
          have hiok : (⟨m0, x1, x2, x3, tx⟩ : Ins).ok := ⟨hm0, by rw [← HE2.out.2.2]; exact i64_rng _, by rw [← HE3.out.2.2]; exact i64_rng _, by rw [← HE4.out.2.2]; exact i64_rng _, by show tx.length ≤ maxLen; have := HE5.out.2.2; unfold maxLen; omega⟩
          have hjr := HJ.out.2.2.1 (by first | rfl | trivial)
          have hcx : is.length + 1 ≤ c5 + 1 := by have h2 := HE1.out.2; have h3 := HE2.out.2.1; have h4 := HE3.out.2.1; have h5 := HE4.out.2.1; have h6 := HE5.out.2.1; omega
          have hc5l : c5 ≤ len := hJ4.r.le
          obtain ⟨v', w9, hrun, hown, hgr, hob⟩ := push_ins hF5.own hJ5.lt.2.2.2.2 ⟨m0, x1, x2, x3, tx⟩ t4.heap.size B5 (by have := HI.out.2.2; omega)
          obtain ⟨Av', cv', rfl⟩ := shape_n hown
          have hp := hF5.pushK hJ5 hown hgr hob hiok hcx
          obtain ⟨k2, hk2⟩ : ∃ z, n2 - j = z + 1 := ⟨n2 - j - 1, by omega⟩
          have hmo : n2 - (j + 1) = k2 := by omega
          have HNX : Hid (RK w qc qe rb B A len cap bs c5 d5 (.slice Af fs.length cf) (.slice none 0 0) fs [] X w9 ∧ FJ B (c5 + 1) (.slice Af fs.length cf) (.slice none 0 0) X (.slice Av' (is.length + 1) cv') (is ++ [⟨m0, x1, x2, x3, tx⟩]) w9 ∧ (d5 = false → kIs bs k1 (n2 - (j + 1)) c5 (fs.map Fe.is) (is ++ [⟨m0, x1, x2, x3, tx⟩]) = R ∧ is.length + 1 ≤ c5 ∧ a + 4 ≤ c5) ∧ (d5 = true → R = none) ∧ a ≤ c5) := Lib.hid ⟨hp.2, hp.1, fun h => by
            have h1 := hrd.1 h
            refine ⟨?_, by omega, by omega⟩
            rw [hmo, ← hjr.1, hk2, kIs_yes _ _ _ _ _ h1.1], fun h => by
            rw [← hjr.1, hk2]; exact kIs_no _ _ _ _ _ (hrd.2 h), by have h2 := HE1.out.2; have h3 := HE2.out.2.1; have h4 := HE3.out.2.1; have h5 := HE4.out.2.1; have h6 := HE5.out.2.1; omega⟩
          have zz0 : t4.cell? ⟨xb, 0, none⟩ = some (.int .u8 (m0 : Int)) := hT4X.cell 0
          have zz1 : t4.cell? ⟨xb, 1, none⟩ = some (.int .i64 x1) := hT4X.cell 1
          have zz2 : t4.cell? ⟨xb, 2, none⟩ = some (.int .i64 x2) := hT4X.cell 2
          have zz3 : t4.cell? ⟨xb, 3, none⟩ = some (.int .i64 x3) := hT4X.cell 3
          have zz4 : t4.cell? ⟨xb, 4, none⟩ = some (.string (str tx)) := hT4X.cell 4
          rw [← ht5] at hrun
          have HR := Lib.hid hrun
          have HW4 := Lib.hid ht4
          have HL := Lib.hid hlj
          clear hrun hown hgr hob hp hJ5 hF5 hJ4 hF4 hX4 hr ho hrd hiok hb5 B5 hcx hmo hk2 ht4 ht5 hT4J hT4F hT4X hjr hc5l HN HT3 HE1 HE2 HE3 HE4 HE5
          go_upto_region 17 with fail
          rw [HW4.out]
          clear z4 y4
          have hrun := HR.out
          go_wp2_with (at_builtin; refine wpList_app rfl _ _ 44 rfl _ _ _ _ rfl rfl hrun ?_)
          go_roundw
          case rel => exact ⟨j + 1, c5, d5, Av', cv', is ++ [⟨m0, x1, x2, x3, tx⟩], by have := HL.out; omega, by go_num, by rw [List.length_append]; rfl, by rw [List.length_append]; exact HNX⟩
          case measure => have := HL.out; simp [intOf]; omega
        · have HKF : Hid ((b3 = false → kFs bs k1 a3 (fs.map Fe.is ++ [is]) = R ∧ fs.length + 1 ≤ a3) ∧ (b3 = true → R = none)) := Lib.hid ⟨fun h => by
            have h1 := HJ.out.2.2.1 h
            have h2 : j = n2 := by
              rcases Nat.lt_or_ge j n2 with e | e
              · exact absurd ⟨e, h⟩ hgo
              · omega
            have h3 := HK.out.2.2.1
            rw [h2, Nat.sub_self, kIs_0] at h1
            exact ⟨h1.1, by omega⟩, HJ.out.2.2.2.1⟩
          have hfa : fs.length + 1 ≤ a3 + 1 := by have h3 := HK.out.2.2.1; have h4 := HJ.out.2.2.2.2; omega
          have ha3 : a3 ≤ len := HJ.out.1.r.le
          obtain ⟨w7, hw7⟩ : ∃ V, w6.alloc (.cells #[.slice Av is.length cv] 44) = V := ⟨_, rfl⟩
          have hb7 : Below w6.heap.size w6 w7 := by rw [← hw7]; exact (Below.refl _ _).alloc (Nat.le_refl _) _
          have hJ7 := HJ.out.1.bel hb7
          have hF7 := HJ.out.2.1.bel hb7
          have B7 : Blk w7 w6.heap.size 44 #[fval ⟨Av, cv, is⟩] := by rw [← hw7]; exact Blk.new _ _ _
          obtain ⟨fv', w8, hrun, hown, hgr, hob⟩ := push_fe hJ7.fo hJ7.lt.2.2.2.2 ⟨Av, cv, is⟩ w6.heap.size B7 (by have := HI.out.2.2; omega)
          obtain ⟨Af', cf', rfl⟩ := shape_n hown
          have hp := hJ7.push_f hF7 hown hgr hob hfa
          have hqf : (Value.slice Af fs.length cf).ownBlock ≠ some qc := fun e => by have := (hJ7.fo.lt qc e).1; have := hJ7.lt; omega
          have b8 := hJ7.c.grown hgr fun e => hqf e.symm
          have c8 : w8.cell? ⟨qc, 0, none⟩ = some (.slice Af fs.length cf) := b8.cell 0
          have f8 := b8.frozen 0
          have c6 : w6.cell? ⟨qc, 0, none⟩ = some (.slice Af fs.length cf) := HJ.out.1.c.cell 0
          have HNF : Hid (RK w qc qe rb B A len cap bs a3 b3 (.slice Af' (fs.length + 1) cf') (.slice none 0 0) (fs ++ [⟨Av, cv, is⟩]) [] (fun k => X k ∨ (Value.slice Av is.length cv).ownBlock = some k) (w8.setCell ⟨qc, 0, none⟩ (.slice Af' (fs.length + 1) cf')) ∧ (b3 = false → kFs bs (n1 - (i + 1)) a3 ((fs ++ [(⟨Av, cv, is⟩ : Fe)]).map Fe.is) = R ∧ fs.length + 1 ≤ a3) ∧ (b3 = true → R = none)) := Lib.hid ⟨hp, fun h => by
            have h1 := HKF.out.1 h
            have h2 := HK.out.2.2.2
            rw [show n1 - (i + 1) = k1 by omega, List.map_append]
            exact ⟨h1.1, h1.2⟩, HKF.out.2⟩
          rw [← hw7] at hrun
          have HR := Lib.hid hrun
          have HL := Lib.hid hlt
          have HGO := Lib.hid hgo
          clear hrun hown hgr hob hp hJ7 hF7 hb7 B7 b8 hqf hw7 hfa ha3 HJ HKF hgo
          by_cases hjn : j < n2
          · have hd2 : decide ((j : Int) < (n2 : Int)) = true := decide_eq_true (by omega)
            have hb3 : b3 = true := by
              have h1 := HGO.out
              cases b3 with
              | true => rfl
              | false => exact absurd ⟨hjn, rfl⟩ h1
            subst hb3
            go_upto_region 18 with fail
            have hrun := HR.out
            go_wp2_with (at_builtin; refine wpList_app rfl _ _ 22 rfl _ _ _ _ rfl rfl hrun ?_)
            go_roundw
            case rel => exact ⟨i + 1, a3, _, Af', cf', fs ++ [⟨Av, cv, is⟩], _, by have := HL.out; omega, by go_num, by rw [List.length_append]; exact HNF⟩
            case measure => have := HL.out; simp [intOf]; omega
          · have hd2 : decide ((j : Int) < (n2 : Int)) = false := decide_eq_false (by omega)
            go_upto_region 18 with fail
            have hrun := HR.out
            go_wp2_with (at_builtin; refine wpList_app rfl _ _ 22 rfl _ _ _ _ rfl rfl hrun ?_)
            go_roundw
            case rel => exact ⟨i + 1, a3, _, Af', cf', fs ++ [⟨Av, cv, is⟩], _, by have := HL.out; omega, by go_num, by rw [List.length_append]; exact HNF⟩
            case measure => have := HL.out; simp [intOf]; omega
    · have HKE : Hid ((bd = false → kEnd bs (fs.map Fe.is) a = R ∧ fs.length ≤ a) ∧ (bd = true → R = none)) := Lib.hid ⟨fun h => by
        have h1 := HJ.out.2.1 h
        have h2 : i = n1 := by
          rcases Nat.lt_or_ge i n1 with e | e
          · exact absurd ⟨e, h⟩ hgo
          · omega
        rw [h2, Nat.sub_self, kFs_0] at h1
        exact h1, HJ.out.2.2⟩
      have HGO := Lib.hid hgo
      obtain ⟨n3, hn3⟩ : ∃ z, numV bs len a 4 bd = z := ⟨_, rfl⟩
      obtain ⟨a4, ha4⟩ : ∃ z, numA len a 4 bd = z := ⟨_, rfl⟩
      obtain ⟨b4, hb4⟩ : ∃ z, (!nOk len a 4 bd) = z := ⟨_, rfl⟩
      have hN := rdnum_any rb len cap a 4 bd A bs w5 HJ.out.1.r (by decide)
      rw [hn3, ha4, hb4] at hN
      have hn34 : n3 < 4294967296 := by rw [← hn3]; exact numV_le bs len a bd
      have hcv3 : IntKind.i64.wrap (n3 : Int) = (n3 : Int) := IntWalk.i64_in _ ⟨by omega, by omega⟩
      have hal := numA_le (len := len) (n := 4) (bd := bd) HJ.out.1.r.le
      rw [ha4] at hal
      have HK : Hid ((b4 = false → kRs bs n3 a4 (fs.map Fe.is) [] = R) ∧ (b4 = true → R = none)) := Lib.hid ⟨fun h => by
        rw [h] at hb4
        have q := num_yes (bs := bs) hb4
        have h1 := HKE.out.1 q.1
        rw [← h1.1, kEnd_yes _ _ (by rw [HI.out.2.1]; exact q.2.1), ← hn3, q.2.2.1, ← ha4, q.2.2.2], fun h => by
        rw [h] at hb4
        have q := num_no (bs := bs) hb4
        rcases Bool.eq_false_or_eq_true bd with e | e
        · exact HKE.out.2 e
        · rcases q.1 with e2 | e2
          · rw [e] at e2; cases e2
          · rw [← (HKE.out.1 e).1]; exact kEnd_no _ _ (by rw [HI.out.2.1]; exact e2)⟩
      have HN := Lib.hid hN
      have HAL := Lib.hid hal
      clear hN hn3 ha4 hb4 hal hgo
      by_cases hlt : i < n1
      · have hd : decide ((i : Int) < (n1 : Int)) = true := decide_eq_true (by omega)
        have hbd : bd = true := by
          have h1 := HGO.out
          cases bd with
          | true => rfl
          | false => exact absurd ⟨hlt, rfl⟩ h1
        subst hbd
        go_upto_region 19 with fail
        go_wp2_with fail
        refine HN.out.mono ?_
        rintro e w6 ⟨rfl, hr6, ho6⟩
        have HJ6 := Lib.hid (HJ.out.1.rd ho6 hr6 HAL.out.1)
        clear hr6 ho6 HN HJ r2
        go_wp2_with fail
        go_loopw [12] (fun v12 wr => ∃ (j a5 : Nat) (b5 : Bool) (Ar : Option Addr) (cr : Nat) (rs : List (List UInt8 × List UInt8)), j ≤ n3 ∧ v12 = .int .i64 (j : Int) ∧ Hid (RK w qc qe rb B A len cap bs a5 b5 (.slice Af fs.length cf) (.slice Ar rs.length cr) fs rs X wr ∧ (b5 = false → kRs bs (n3 - j) a5 (fs.map Fe.is) rs = R ∧ rs.length ≤ a5) ∧ (b5 = true → R = none))) (fun v12 _ => n3 - (intOf v12).toNat)
        case atStart => exact ⟨0, a4, b4, none, 0, [], Nat.zero_le _, rfl, Lib.hid ⟨HJ6.out, fun h => ⟨HK.out.1 h, Nat.zero_le _⟩, HK.out.2⟩⟩
        case round =>
          clear HJ6
          obtain ⟨j, a5, b5, Ar, cr, rs, hj, rfl, HJ⟩ := hrel
          obtain ⟨w7, rfl⟩ : ∃ v, v = wr := ⟨_, rfl⟩
          have r2 : w7.cell? ⟨rb, 2, none⟩ = some (.bool b5) := HJ.out.1.r.blk.cell 2
          have r1 : w7.cell? ⟨rb, 1, none⟩ = some (.int .i64 (a5 : Int)) := HJ.out.1.r.blk.cell 1
          by_cases hgo2 : j < n3 ∧ b5 = false
          · obtain ⟨hlj, rfl⟩ := hgo2
            have hd2 : decide ((j : Int) < (n3 : Int)) = true := decide_eq_true (by omega)
            obtain ⟨s1, hs1⟩ : ∃ z, tV bs len a5 false = z := ⟨_, rfl⟩
            obtain ⟨c1, hc1⟩ : ∃ z, tA bs len a5 false = z := ⟨_, rfl⟩
            obtain ⟨d1, hd1⟩ : ∃ z, (!tOk bs len a5 false) = z := ⟨_, rfl⟩
            have hN := rdtext_any rb len cap a5 false A bs w7 HJ.out.1.r
            rw [hs1, hc1, hd1] at hN
            have HE1 : Hid ((tV bs len a5 false = s1 ∧ tA bs len a5 false = c1 ∧ (!tOk bs len a5 false) = d1) ∧ a5 ≤ c1 ∧ s1.length ≤ len) := Lib.hid ⟨⟨hs1, hc1, hd1⟩, by rw [← hc1]; exact (tA_le HJ.out.1.r.le).1, by rw [← hs1]; exact tV_len bs len a5 false HI.out.2.1⟩
            have HN := Lib.hid hN
            clear hN hs1 hc1 hd1
            go_wp2_with fail
            refine HN.out.mono ?_
            rintro e u0 ⟨rfl, hr, ho⟩
            have hJ0 := HJ.out.1.rd ho hr HE1.out.2.1
            obtain ⟨xb, hxb⟩ : ∃ z, u0.heap.size = z := ⟨_, rfl⟩
            obtain ⟨t0, ht0⟩ : ∃ V, u0.alloc (.cells #[.string (str s1), .string ⟨#[]⟩] 48) = V := ⟨_, rfl⟩
            have hbt : Below u0.heap.size u0 t0 := by rw [← ht0]; exact (Below.refl _ _).alloc (Nat.le_refl _) _
            have HXB : Hid (B ≤ xb ∧ (Value.slice Af fs.length cf).ownBlock ≠ some xb ∧ (Value.slice Ar rs.length cr).ownBlock ≠ some xb ∧ ¬ X xb ∧ xb ≠ rb) := Lib.hid ⟨by rw [← hxb]; exact hJ0.lt.2.2.2.2, fun e => (by have := (hJ0.fo.lt _ e).2; omega), fun e => (by have := (hJ0.ro.lt _ e).2; omega), fun e => (by have := (hJ0.x _ e).1; omega), by have := hJ0.r.blk.lt; omega⟩
            have HT0 : Hid (RK w qc qe rb B A len cap bs c1 d1 (.slice Af fs.length cf) (.slice Ar rs.length cr) fs rs X t0 ∧ Blk t0 xb 48 #[.string (str s1), .string ⟨#[]⟩]) := Lib.hid ⟨hJ0.bel hbt, by rw [← ht0, ← hxb]; exact Blk.new _ _ _⟩
            have HW0 := Lib.hid (And.intro hxb ht0)
            clear hr ho hJ0 hbt hxb ht0 r2 r1 HN
            go_upto_region 24 with fail
            rw [HW0.out.1, HW0.out.2]
            obtain ⟨s2, hs2⟩ : ∃ z, tV bs len c1 d1 = z := ⟨_, rfl⟩
            obtain ⟨c2, hc2⟩ : ∃ z, tA bs len c1 d1 = z := ⟨_, rfl⟩
            obtain ⟨d2, hd2'⟩ : ∃ z, (!tOk bs len c1 d1) = z := ⟨_, rfl⟩
            have hN := rdtext_any rb len cap c1 d1 A bs t0 HT0.out.1.r
            rw [hs2, hc2, hd2'] at hN
            have HE2 : Hid ((tV bs len c1 d1 = s2 ∧ tA bs len c1 d1 = c2 ∧ (!tOk bs len c1 d1) = d2) ∧ c1 ≤ c2 ∧ s2.length ≤ len) := Lib.hid ⟨⟨hs2, hc2, hd2'⟩, by rw [← hc2]; exact (tA_le HT0.out.1.r.le).1, by rw [← hs2]; exact tV_len bs len c1 d1 HI.out.2.1⟩
            have HN := Lib.hid hN
            clear hN hs2 hc2 hd2'
            go_wp2_with fail
            refine HN.out.mono ?_
            rintro e u1 ⟨rfl, hr, ho⟩
            have hJ1 := HT0.out.1.rd ho hr HE2.out.2.1
            have hX1 := HT0.out.2.off ho HXB.out.2.2.2.2
            have z1 : u1.cell? ⟨xb, 1, none⟩ = some (.string ⟨#[]⟩) := hX1.cell 1
            have y1 := hX1.frozen 1
            obtain ⟨t1, ht1⟩ : ∃ V, u1.setCell ⟨xb, 1, none⟩ (.string (str s2)) = V := ⟨_, rfl⟩
            have hT1J := hJ1.put ⟨HXB.out.1, HXB.out.2.1, HXB.out.2.2.1, HXB.out.2.2.2.1⟩ 1 (.string (str s2))
            have hT1X : Blk (u1.setCell ⟨xb, 1, none⟩ (.string (str s2))) xb 48 #[.string (str s1), .string (str s2)] := hX1.set_ 1 _
            rw [ht1] at hT1J hT1X
            obtain ⟨t2, ht2⟩ : ∃ V, t1.alloc (.cells #[.string (str s1), .string (str s2)] 48) = V := ⟨_, rfl⟩
            have hb2 : Below t1.heap.size t1 t2 := by rw [← ht2]; exact (Below.refl _ _).alloc (Nat.le_refl _) _
            have B2 : Blk t2 t1.heap.size 48 (rtCells (s1, s2)).toArray := by rw [← ht2]; exact Blk.new _ _ _
            have hJ2 := hT1J.bel hb2
            have hrd := root_read HI.out.2.1 HE1.out.1 HE2.out.1
            have hjr := HJ.out.2.1 (by first | rfl | trivial)
            have hc2l : c2 ≤ len := hJ1.r.le
            have hcx : rs.length + 1 ≤ c2 + 1 := by have h2 := HE1.out.2.1; have h3 := HE2.out.2.1; omega
            obtain ⟨rv', w9, hrun, hown, hgr, hob⟩ := push_rt hJ2.ro hJ2.lt.2.2.2.2 (s1, s2) t1.heap.size B2 (by have := HI.out.2.2; omega)
            obtain ⟨Ar', cr', rfl⟩ := shape_n hown
            have hrok : rtOk (s1, s2) := ⟨by show s1.length ≤ maxLen; have := HE1.out.2.2; unfold maxLen; omega, by show s2.length ≤ maxLen; have := HE2.out.2.2; unfold maxLen; omega⟩
            have hp := hJ2.push_r hown hgr hob hrok hcx
            have hqr : (Value.slice Ar rs.length cr).ownBlock ≠ some qc := fun e => by have := (hJ2.ro.lt qc e).1; have := hJ2.lt; omega
            have b9 := hJ2.c.grown hgr fun e => hqr e.symm
            have c9 : w9.cell? ⟨qc, 1, none⟩ = some (.slice Ar rs.length cr) := b9.cell 1
            have f9 := b9.frozen 1
            have cc1 : t1.cell? ⟨qc, 1, none⟩ = some (.slice Ar rs.length cr) := hT1J.c.cell 1
            have zz0 : t1.cell? ⟨xb, 0, none⟩ = some (.string (str s1)) := hT1X.cell 0
            have zz1 : t1.cell? ⟨xb, 1, none⟩ = some (.string (str s2)) := hT1X.cell 1
            obtain ⟨k2, hk2⟩ : ∃ z, n3 - j = z + 1 := ⟨n3 - j - 1, by omega⟩
            have HNX : Hid (RK w qc qe rb B A len cap bs c2 d2 (.slice Af fs.length cf) (.slice Ar' (rs.length + 1) cr') fs (rs ++ [(s1, s2)]) X (w9.setCell ⟨qc, 1, none⟩ (.slice Ar' (rs.length + 1) cr')) ∧ (d2 = false → kRs bs (n3 - (j + 1)) c2 (fs.map Fe.is) (rs ++ [(s1, s2)]) = R ∧ rs.length + 1 ≤ c2) ∧ (d2 = true → R = none)) := Lib.hid ⟨hp, fun h => by
              have h1 := hrd.1 h
              refine ⟨?_, by omega⟩
              rw [show n3 - (j + 1) = k2 by omega, ← hjr.1, hk2, kRs_yes _ _ _ _ h1.1], fun h => by
              rw [← hjr.1, hk2]; exact kRs_no _ _ _ _ (hrd.2 h)⟩
            rw [← ht2] at hrun
            have HR := Lib.hid hrun
            have HW1 := Lib.hid ht1
            have HL := Lib.hid hlj
            clear hrun hown hgr hob hp hJ2 hJ1 hX1 hr ho hrd hrok hb2 B2 hcx hk2 ht1 ht2 hT1J hT1X hjr hc2l HN HT0 HE1 HE2 b9 hqr
            go_upto_region 25 with fail
            rw [HW1.out]
            clear z1 y1
            have hrun := HR.out
            go_wp2_with (at_builtin; refine wpList_app rfl _ _ 23 rfl _ _ _ _ rfl rfl hrun ?_)
            go_roundw
            case rel => exact ⟨j + 1, c2, d2, Ar', cr', rs ++ [(s1, s2)], by have := HL.out; omega, by go_num, by rw [List.length_append]; exact HNX⟩
            case measure => have := HL.out; simp [intOf]; omega
          · have hj5 := HJ.out.1.r.le
            have HZ : Hid ((b5 = true → R = none) ∧ (b5 = false → (if a5 = len then some (⟨fs.map Fe.is, rs⟩ : Cd) else none) = R)) := Lib.hid ⟨HJ.out.2.2, fun h => by
              have h1 := HJ.out.2.1 h
              have h2 : j = n3 := by
                rcases Nat.lt_or_ge j n3 with e | e
                · exact absurd ⟨e, h⟩ hgo2
                · omega
              rw [h2, Nat.sub_self, kRs_0, HI.out.2.1] at h1
              exact h1.1⟩
            have HGO2 := Lib.hid hgo2
            clear hgo2
            have e0 := HJ.out.1.e.cell 0
            have e1 : w7.cell? ⟨qe, 1, none⟩ = some (.slice none 0 0) := HJ.out.1.e.cell 1
            have e0 : w7.cell? ⟨qe, 0, none⟩ = some (.slice none 0 0) := HJ.out.1.e.cell 0
            have g0 := HJ.out.1.e.frozen 0
            have g1 := HJ.out.1.e.frozen 1
            have q0 : w7.cell? ⟨qc, 0, none⟩ = some (.slice Af fs.length cf) := HJ.out.1.c.cell 0
            have q1 : w7.cell? ⟨qc, 1, none⟩ = some (.slice Ar rs.length cr) := HJ.out.1.c.cell 1
            cases b5 with
            | true =>
              have HD := Lib.hid (HJ.out.1.done (.slice none 0 0) (.slice none 0 0))
              by_cases hjn : j < n3
              · have hd2 : decide ((j : Int) < (n3 : Int)) = true := decide_eq_true (by omega)
                go_wp2_with fail
                refine bodyPost_ret (results_cell_tmp_row rfl _ _ qe 25 _ (0, 0) _ rfl HD.out.1 Try.underlying25 rfl code_size) rfl ?_
                exact RdP.no (HZ.out.1 (by first | rfl | trivial)) HD.out.2.1 rfl
              · have hd2 : decide ((j : Int) < (n3 : Int)) = false := decide_eq_false (by omega)
                go_wp2_with fail
                refine bodyPost_ret (results_cell_tmp_row rfl _ _ qe 25 _ (0, 0) _ rfl HD.out.1 Try.underlying25 rfl code_size) rfl ?_
                exact RdP.no (HZ.out.1 (by first | rfl | trivial)) HD.out.2.1 rfl
            | false =>
              have hjn : ¬ j < n3 := fun h => HGO2.out ⟨h, rfl⟩
              have hd2 : decide ((j : Int) < (n3 : Int)) = false := decide_eq_false (by omega)
              by_cases hal : a5 = len
              · have hx : ((a5 : Int) != (len : Int)) = false := by simp [hal]
                have HD := Lib.hid (HJ.out.1.done (.slice Af fs.length cf) (.slice Ar rs.length cr))
                have HAE := Lib.hid hal
                clear hal
                go_wp2_with fail
                refine bodyPost_ret (results_cell_tmp_row rfl _ _ qe 25 _ (0, 0) _ rfl HD.out.1 Try.underlying25 rfl code_size) rfl ?_
                exact RdP.yes ⟨fs, Af, cf, rs, Ar, cr⟩ (by have h1 := HZ.out.2 (by first | rfl | trivial); rw [if_pos HAE.out] at h1; exact h1.symm) HD.out.2.1 rfl HD.out.2.2
              · have hx : ((a5 : Int) != (len : Int)) = true := by simp; omega
                have HD := Lib.hid (HJ.out.1.done (.slice none 0 0) (.slice none 0 0))
                have HAE := Lib.hid hal
                clear hal
                go_wp2_with fail
                refine bodyPost_ret (results_cell_tmp_row rfl _ _ qe 25 _ (0, 0) _ rfl HD.out.1 Try.underlying25 rfl code_size) rfl ?_
                exact RdP.no (by have h1 := HZ.out.2 (by first | rfl | trivial); rw [if_neg HAE.out] at h1; exact h1.symm) HD.out.2.1 rfl
      · have hd : decide ((i : Int) < (n1 : Int)) = false := decide_eq_false (by omega)
        go_upto_region 19 with fail
        go_wp2_with fail
        refine HN.out.mono ?_
        rintro e w6 ⟨rfl, hr6, ho6⟩
        have HJ6 := Lib.hid (HJ.out.1.rd ho6 hr6 HAL.out.1)
        clear hr6 ho6 HN HJ r2
        go_wp2_with fail
        go_loopw [12] (fun v12 wr => ∃ (j a5 : Nat) (b5 : Bool) (Ar : Option Addr) (cr : Nat) (rs : List (List UInt8 × List UInt8)), j ≤ n3 ∧ v12 = .int .i64 (j : Int) ∧ Hid (RK w qc qe rb B A len cap bs a5 b5 (.slice Af fs.length cf) (.slice Ar rs.length cr) fs rs X wr ∧ (b5 = false → kRs bs (n3 - j) a5 (fs.map Fe.is) rs = R ∧ rs.length ≤ a5) ∧ (b5 = true → R = none))) (fun v12 _ => n3 - (intOf v12).toNat)
        case atStart => exact ⟨0, a4, b4, none, 0, [], Nat.zero_le _, rfl, Lib.hid ⟨HJ6.out, fun h => ⟨HK.out.1 h, Nat.zero_le _⟩, HK.out.2⟩⟩
        case round =>
          clear HJ6
          obtain ⟨j, a5, b5, Ar, cr, rs, hj, rfl, HJ⟩ := hrel
          obtain ⟨w7, rfl⟩ : ∃ v, v = wr := ⟨_, rfl⟩
          have r2 : w7.cell? ⟨rb, 2, none⟩ = some (.bool b5) := HJ.out.1.r.blk.cell 2
          have r1 : w7.cell? ⟨rb, 1, none⟩ = some (.int .i64 (a5 : Int)) := HJ.out.1.r.blk.cell 1
          by_cases hgo2 : j < n3 ∧ b5 = false
          · obtain ⟨hlj, rfl⟩ := hgo2
            have hd2 : decide ((j : Int) < (n3 : Int)) = true := decide_eq_true (by omega)
            obtain ⟨s1, hs1⟩ : ∃ z, tV bs len a5 false = z := ⟨_, rfl⟩
            obtain ⟨c1, hc1⟩ : ∃ z, tA bs len a5 false = z := ⟨_, rfl⟩
            obtain ⟨d1, hd1⟩ : ∃ z, (!tOk bs len a5 false) = z := ⟨_, rfl⟩
            have hN := rdtext_any rb len cap a5 false A bs w7 HJ.out.1.r
            rw [hs1, hc1, hd1] at hN
            have HE1 : Hid ((tV bs len a5 false = s1 ∧ tA bs len a5 false = c1 ∧ (!tOk bs len a5 false) = d1) ∧ a5 ≤ c1 ∧ s1.length ≤ len) := Lib.hid ⟨⟨hs1, hc1, hd1⟩, by rw [← hc1]; exact (tA_le HJ.out.1.r.le).1, by rw [← hs1]; exact tV_len bs len a5 false HI.out.2.1⟩
            have HN := Lib.hid hN
            clear hN hs1 hc1 hd1
            go_wp2_with fail
            refine HN.out.mono ?_
            rintro e u0 ⟨rfl, hr, ho⟩
            have hJ0 := HJ.out.1.rd ho hr HE1.out.2.1
            obtain ⟨xb, hxb⟩ : ∃ z, u0.heap.size = z := ⟨_, rfl⟩
            obtain ⟨t0, ht0⟩ : ∃ V, u0.alloc (.cells #[.string (str s1), .string ⟨#[]⟩] 48) = V := ⟨_, rfl⟩
            have hbt : Below u0.heap.size u0 t0 := by rw [← ht0]; exact (Below.refl _ _).alloc (Nat.le_refl _) _
            have HXB : Hid (B ≤ xb ∧ (Value.slice Af fs.length cf).ownBlock ≠ some xb ∧ (Value.slice Ar rs.length cr).ownBlock ≠ some xb ∧ ¬ X xb ∧ xb ≠ rb) := Lib.hid ⟨by rw [← hxb]; exact hJ0.lt.2.2.2.2, fun e => (by have := (hJ0.fo.lt _ e).2; omega), fun e => (by have := (hJ0.ro.lt _ e).2; omega), fun e => (by have := (hJ0.x _ e).1; omega), by have := hJ0.r.blk.lt; omega⟩
            have HT0 : Hid (RK w qc qe rb B A len cap bs c1 d1 (.slice Af fs.length cf) (.slice Ar rs.length cr) fs rs X t0 ∧ Blk t0 xb 48 #[.string (str s1), .string ⟨#[]⟩]) := Lib.hid ⟨hJ0.bel hbt, by rw [← ht0, ← hxb]; exact Blk.new _ _ _⟩
            have HW0 := Lib.hid (And.intro hxb ht0)
            clear hr ho hJ0 hbt hxb ht0 r2 r1 HN
            go_upto_region 24 with fail
            rw [HW0.out.1, HW0.out.2]
            obtain ⟨s2, hs2⟩ : ∃ z, tV bs len c1 d1 = z := ⟨_, rfl⟩
            obtain ⟨c2, hc2⟩ : ∃ z, tA bs len c1 d1 = z := ⟨_, rfl⟩
            obtain ⟨d2, hd2'⟩ : ∃ z, (!tOk bs len c1 d1) = z := ⟨_, rfl⟩
            have hN := rdtext_any rb len cap c1 d1 A bs t0 HT0.out.1.r
            rw [hs2, hc2, hd2'] at hN
            have HE2 : Hid ((tV bs len c1 d1 = s2 ∧ tA bs len c1 d1 = c2 ∧ (!tOk bs len c1 d1) = d2) ∧ c1 ≤ c2 ∧ s2.length ≤ len) := Lib.hid ⟨⟨hs2, hc2, hd2'⟩, by rw [← hc2]; exact (tA_le HT0.out.1.r.le).1, by rw [← hs2]; exact tV_len bs len c1 d1 HI.out.2.1⟩
            have HN := Lib.hid hN
            clear hN hs2 hc2 hd2'
            go_wp2_with fail
            refine HN.out.mono ?_
            rintro e u1 ⟨rfl, hr, ho⟩
            have hJ1 := HT0.out.1.rd ho hr HE2.out.2.1
            have hX1 := HT0.out.2.off ho HXB.out.2.2.2.2
            have z1 : u1.cell? ⟨xb, 1, none⟩ = some (.string ⟨#[]⟩) := hX1.cell 1
            have y1 := hX1.frozen 1
            obtain ⟨t1, ht1⟩ : ∃ V, u1.setCell ⟨xb, 1, none⟩ (.string (str s2)) = V := ⟨_, rfl⟩
            have hT1J := hJ1.put ⟨HXB.out.1, HXB.out.2.1, HXB.out.2.2.1, HXB.out.2.2.2.1⟩ 1 (.string (str s2))
            have hT1X : Blk (u1.setCell ⟨xb, 1, none⟩ (.string (str s2))) xb 48 #[.string (str s1), .string (str s2)] := hX1.set_ 1 _
            rw [ht1] at hT1J hT1X
            obtain ⟨t2, ht2⟩ : ∃ V, t1.alloc (.cells #[.string (str s1), .string (str s2)] 48) = V := ⟨_, rfl⟩
            have hb2 : Below t1.heap.size t1 t2 := by rw [← ht2]; exact (Below.refl _ _).alloc (Nat.le_refl _) _
            have B2 : Blk t2 t1.heap.size 48 (rtCells (s1, s2)).toArray := by rw [← ht2]; exact Blk.new _ _ _
            have hJ2 := hT1J.bel hb2
            have hrd := root_read HI.out.2.1 HE1.out.1 HE2.out.1
            have hjr := HJ.out.2.1 (by first | rfl | trivial)
            have hc2l : c2 ≤ len := hJ1.r.le
            have hcx : rs.length + 1 ≤ c2 + 1 := by have h2 := HE1.out.2.1; have h3 := HE2.out.2.1; omega
            obtain ⟨rv', w9, hrun, hown, hgr, hob⟩ := push_rt hJ2.ro hJ2.lt.2.2.2.2 (s1, s2) t1.heap.size B2 (by have := HI.out.2.2; omega)
            obtain ⟨Ar', cr', rfl⟩ := shape_n hown
            have hrok : rtOk (s1, s2) := ⟨by show s1.length ≤ maxLen; have := HE1.out.2.2; unfold maxLen; omega, by show s2.length ≤ maxLen; have := HE2.out.2.2; unfold maxLen; omega⟩
            have hp := hJ2.push_r hown hgr hob hrok hcx
            have hqr : (Value.slice Ar rs.length cr).ownBlock ≠ some qc := fun e => by have := (hJ2.ro.lt qc e).1; have := hJ2.lt; omega
            have b9 := hJ2.c.grown hgr fun e => hqr e.symm
            have c9 : w9.cell? ⟨qc, 1, none⟩ = some (.slice Ar rs.length cr) := b9.cell 1
            have f9 := b9.frozen 1
            have cc1 : t1.cell? ⟨qc, 1, none⟩ = some (.slice Ar rs.length cr) := hT1J.c.cell 1
            have zz0 : t1.cell? ⟨xb, 0, none⟩ = some (.string (str s1)) := hT1X.cell 0
            have zz1 : t1.cell? ⟨xb, 1, none⟩ = some (.string (str s2)) := hT1X.cell 1
            obtain ⟨k2, hk2⟩ : ∃ z, n3 - j = z + 1 := ⟨n3 - j - 1, by omega⟩
            have HNX : Hid (RK w qc qe rb B A len cap bs c2 d2 (.slice Af fs.length cf) (.slice Ar' (rs.length + 1) cr') fs (rs ++ [(s1, s2)]) X (w9.setCell ⟨qc, 1, none⟩ (.slice Ar' (rs.length + 1) cr')) ∧ (d2 = false → kRs bs (n3 - (j + 1)) c2 (fs.map Fe.is) (rs ++ [(s1, s2)]) = R ∧ rs.length + 1 ≤ c2) ∧ (d2 = true → R = none)) := Lib.hid ⟨hp, fun h => by
              have h1 := hrd.1 h
              refine ⟨?_, by omega⟩
              rw [show n3 - (j + 1) = k2 by omega, ← hjr.1, hk2, kRs_yes _ _ _ _ h1.1], fun h => by
              rw [← hjr.1, hk2]; exact kRs_no _ _ _ _ (hrd.2 h)⟩
            rw [← ht2] at hrun
            have HR := Lib.hid hrun
            have HW1 := Lib.hid ht1
            have HL := Lib.hid hlj
            clear hrun hown hgr hob hp hJ2 hJ1 hX1 hr ho hrd hrok hb2 B2 hcx hk2 ht1 ht2 hT1J hT1X hjr hc2l HN HT0 HE1 HE2 b9 hqr
            go_upto_region 25 with fail
            rw [HW1.out]
            clear z1 y1
            have hrun := HR.out
            go_wp2_with (at_builtin; refine wpList_app rfl _ _ 23 rfl _ _ _ _ rfl rfl hrun ?_)
            go_roundw
            case rel => exact ⟨j + 1, c2, d2, Ar', cr', rs ++ [(s1, s2)], by have := HL.out; omega, by go_num, by rw [List.length_append]; exact HNX⟩
            case measure => have := HL.out; simp [intOf]; omega
          · have hj5 := HJ.out.1.r.le
            have HZ : Hid ((b5 = true → R = none) ∧ (b5 = false → (if a5 = len then some (⟨fs.map Fe.is, rs⟩ : Cd) else none) = R)) := Lib.hid ⟨HJ.out.2.2, fun h => by
              have h1 := HJ.out.2.1 h
              have h2 : j = n3 := by
                rcases Nat.lt_or_ge j n3 with e | e
                · exact absurd ⟨e, h⟩ hgo2
                · omega
              rw [h2, Nat.sub_self, kRs_0, HI.out.2.1] at h1
              exact h1.1⟩
            have HGO2 := Lib.hid hgo2
            clear hgo2
            have e0 := HJ.out.1.e.cell 0
            have e1 : w7.cell? ⟨qe, 1, none⟩ = some (.slice none 0 0) := HJ.out.1.e.cell 1
            have e0 : w7.cell? ⟨qe, 0, none⟩ = some (.slice none 0 0) := HJ.out.1.e.cell 0
            have g0 := HJ.out.1.e.frozen 0
            have g1 := HJ.out.1.e.frozen 1
            have q0 : w7.cell? ⟨qc, 0, none⟩ = some (.slice Af fs.length cf) := HJ.out.1.c.cell 0
            have q1 : w7.cell? ⟨qc, 1, none⟩ = some (.slice Ar rs.length cr) := HJ.out.1.c.cell 1
            cases b5 with
            | true =>
              have HD := Lib.hid (HJ.out.1.done (.slice none 0 0) (.slice none 0 0))
              by_cases hjn : j < n3
              · have hd2 : decide ((j : Int) < (n3 : Int)) = true := decide_eq_true (by omega)
                go_wp2_with fail
                refine bodyPost_ret (results_cell_tmp_row rfl _ _ qe 25 _ (0, 0) _ rfl HD.out.1 Try.underlying25 rfl code_size) rfl ?_
                exact RdP.no (HZ.out.1 (by first | rfl | trivial)) HD.out.2.1 rfl
              · have hd2 : decide ((j : Int) < (n3 : Int)) = false := decide_eq_false (by omega)
                go_wp2_with fail
                refine bodyPost_ret (results_cell_tmp_row rfl _ _ qe 25 _ (0, 0) _ rfl HD.out.1 Try.underlying25 rfl code_size) rfl ?_
                exact RdP.no (HZ.out.1 (by first | rfl | trivial)) HD.out.2.1 rfl
            | false =>
              have hjn : ¬ j < n3 := fun h => HGO2.out ⟨h, rfl⟩
              have hd2 : decide ((j : Int) < (n3 : Int)) = false := decide_eq_false (by omega)
              by_cases hal : a5 = len
              · have hx : ((a5 : Int) != (len : Int)) = false := by simp [hal]
                have HD := Lib.hid (HJ.out.1.done (.slice Af fs.length cf) (.slice Ar rs.length cr))
                have HAE := Lib.hid hal
                clear hal
                go_wp2_with fail
                refine bodyPost_ret (results_cell_tmp_row rfl _ _ qe 25 _ (0, 0) _ rfl HD.out.1 Try.underlying25 rfl code_size) rfl ?_
                exact RdP.yes ⟨fs, Af, cf, rs, Ar, cr⟩ (by have h1 := HZ.out.2 (by first | rfl | trivial); rw [if_pos HAE.out] at h1; exact h1.symm) HD.out.2.1 rfl HD.out.2.2
              · have hx : ((a5 : Int) != (len : Int)) = true := by simp; omega
                have HD := Lib.hid (HJ.out.1.done (.slice none 0 0) (.slice none 0 0))
                have HAE := Lib.hid hal
                clear hal
                go_wp2_with fail
                refine bodyPost_ret (results_cell_tmp_row rfl _ _ qe 25 _ (0, 0) _ rfl HD.out.1 Try.underlying25 rfl code_size) rfl ?_
                exact RdP.no (by have h1 := HZ.out.2 (by first | rfl | trivial); rw [if_neg HAE.out] at h1; exact h1.symm) HD.out.2.1 rfl
end Go.Proofs.Ytimkiifcmegfeaa
