/- stamp, numbers too: datatypes printed; Ty, Dec. -/
import Derived.Test.YtadogebhkldeiaaGreatDoorZV
namespace Go.Proofs.YtadogebhkldeiaaGreatDoor
open Go.RowKit Ty
set_option linter.unusedVariables false
set_option linter.unusedSimpArgs false
attribute [local go_sem] Oper.semAt_some
/-- What a declaration of a datatype has besides. -/
structure Rst where
  fA : Option Addr
  fl : Nat
  fc : Nat
  tk : Int
  ts : ByteArray
  tn : Int
  tA : Option Addr
  tl : Nat
  tc : Nat
  ek : Int
  es : ByteArray
  en : Int
  et : ByteArray
  kA : Option Addr
  kl : Nat
  kc : Nat
  rA : Option Addr
  rl : Nat
  rc : Nat
  dA : Option Addr
  dl : Nat
  dc : Nat
/-- A datatype's declaration, where its rows lie, and what it has besides. -/
structure Dc where
  k : Nat
  nm : List UInt8
  vs : List (List UInt8)
  cs : List Cn
  vA : Option Addr
  vc : Nat
  cA : Option Addr
  cc : Nat
  r : Rst
def dcells (k : Nat) (nm : ByteArray) (vA : Option Addr) (vl vc : Nat) (cA : Option Addr) (cl cc : Nat) (r : Rst) : List Value := [.int .u8 (k : Int), .string nm, .slice vA vl vc, .slice cA cl cc, .slice r.fA r.fl r.fc, .int .u8 r.tk, .string r.ts, .int .i64 r.tn, .slice r.tA r.tl r.tc, .int .u8 r.ek, .string r.es, .int .i64 r.en, .string r.et, .slice r.kA r.kl r.kc, .slice r.rA r.rl r.rc, .slice r.dA r.dl r.dc]
def Dc.cells (d : Dc) : List Value := dcells d.k (str d.nm) d.vA d.vs.length d.vc d.cA d.cs.length d.cc d.r
def Dc.val (d : Dc) : Value := .agg #[.int .u8 (d.k : Int), .string (str d.nm), .slice d.vA d.vs.length d.vc, .slice d.cA d.cs.length d.cc, .slice d.r.fA d.r.fl d.r.fc, .int .u8 d.r.tk, .string d.r.ts, .int .i64 d.r.tn, .slice d.r.tA d.r.tl d.r.tc, .int .u8 d.r.ek, .string d.r.es, .int .i64 d.r.en, .string d.r.et, .slice d.r.kA d.r.kl d.r.kc, .slice d.r.rA d.r.rl d.r.rc, .slice d.r.dA d.r.dl d.r.dc]
/-- Its rows lie in X. -/
def Dc.K (d : Dc) (X : Nat → Prop) (w : World) : Prop := SsAt X w d.vA d.vs ∧ CnAt X w d.cA d.cs
theorem Dc.K.off {d : Dc} {X G : Nat → Prop} {w w' : World} (h : d.K X w) (ho : Off G w w') (hG : ∀ b, X b → ¬ G b) : d.K X w' := ⟨h.1.off ho hG, h.2.off ho hG⟩
theorem Dc.K.mono {d : Dc} {X Y : Nat → Prop} {w : World} (h : d.K X w) (hX : ∀ b, X b → Y b) : d.K Y w := ⟨h.1.mono hX, h.2.mono hX⟩
def decT (d : Dc) : List UInt8 := [100, 97, 116, 97, 116, 121, 112, 101, 32] ++ varsT d.vs ++ (d.nm ++ [32, 61, 32]) ++ joinT [32, 124, 32] (d.cs.map conT)
set_option maxRecDepth 100000 in
set_option maxHeartbeats 8000000 in
theorem dec_any (d : Dc) (hk : d.k = 1) (hv : d.vs.length ≤ 2000000) (hc : d.cs.length ≤ 1000000) (hpr : ∀ c ∈ d.cs, c.has = true → pr c.ty = true) : PutC 33 d.val (decT d) d.K := by
  intro B X b l w hb hT hl
  obtain ⟨k, nm, vs, cs, vA, vc, cA, cc, r⟩ := d
  have hk : k = 1 := hk
  subst hk
  have hv : vs.length ≤ 2000000 := hv
  have hc : cs.length ≤ 1000000 := hc
  have hT : SsAt X w vA vs ∧ CnAt X w cA cs := hT
  have hpr : ∀ c ∈ cs, c.has = true → pr c.ty = true := hpr
  have htx : decT ⟨1, nm, vs, cs, vA, vc, cA, cc, r⟩ = [100, 97, 116, 97, 116, 121, 112, 101, 32] ++ varsT vs ++ (nm ++ [32, 61, 32]) ++ joinT [32, 124, 32] (cs.map conT) := rfl
  obtain ⟨tx, hx⟩ : ∃ tx, decT ⟨1, nm, vs, cs, vA, vc, cA, cc, r⟩ = tx := ⟨_, rfl⟩
  rw [hx] at hl htx ⊢
  obtain ⟨vt, hvt⟩ : ∃ vt, varsT vs = vt := ⟨_, rfl⟩
  obtain ⟨ct, hct⟩ : ∃ ct, joinT [32, 124, 32] (cs.map conT) = ct := ⟨_, rfl⟩
  rw [hvt, hct] at htx
  obtain ⟨vl, hvl⟩ : ∃ vl, vs.length = vl := ⟨_, rfl⟩
  obtain ⟨cl, hcl⟩ : ∃ cl, cs.length = cl := ⟨_, rfl⟩
  show Calls Tryz.prog 33 #[.pointer (some ⟨b, 0, none⟩), .agg #[.int .u8 1, .string (str nm), .slice vA vs.length vc, .slice cA cs.length cc, .slice r.fA r.fl r.fc, .int .u8 r.tk, .string r.ts, .int .i64 r.tn, .slice r.tA r.tl r.tc, .int .u8 r.ek, .string r.es, .int .i64 r.en, .string r.et, .slice r.kA r.kl r.kc, .slice r.rA r.rl r.rc, .slice r.dA r.dl r.dc]] w fun e w' => e = .returned (.tuple #[]) ∧ IsB B X b (l ++ tx) w' ∧ Off (fun k => ¬ X k) w w'
  rw [hvl, hcl]
  rw [hvl] at hv
  rw [hcl] at hc
  obtain ⟨w1, hw1⟩ : ∃ W, w.alloc (.cells #[.int .u8 1, .string (str nm), .slice vA vl vc, .slice cA cl cc, .slice r.fA r.fl r.fc, .int .u8 r.tk, .string r.ts, .int .i64 r.tn, .slice r.tA r.tl r.tc, .int .u8 r.ek, .string r.es, .int .i64 r.en, .string r.et, .slice r.kA r.kl r.kc, .slice r.rA r.rl r.rc, .slice r.dA r.dl r.dc] 42) = W := ⟨_, rfl⟩
  have hb1 : Below w.heap.size w w1 := by rw [← hw1]; exact (Below.refl _ _).alloc (Nat.le_refl _) _
  have hB1 : Blk w1 w.heap.size 42 #[.int .u8 1, .string (str nm), .slice vA vl vc, .slice cA cl cc, .slice r.fA r.fl r.fc, .int .u8 r.tk, .string r.ts, .int .i64 r.tn, .slice r.tA r.tl r.tc, .int .u8 r.ek, .string r.es, .int .i64 r.en, .string r.et, .slice r.kA r.kl r.kc, .slice r.rA r.rl r.rc, .slice r.dA r.dl r.dc] := by rw [← hw1]; exact Blk.new _ _ _
  obtain ⟨q, hq⟩ : ∃ q, w.heap.size = q := ⟨_, rfl⟩
  rw [hq] at hB1
  obtain ⟨Y, hY⟩ : ∃ Y : Nat → Prop, Y = fun k => X k ∨ k = q := ⟨_, rfl⟩
  have hYq : Y q := by rw [hY]; exact .inr rfl
  have hXY : ∀ k, X k → Y k := fun k h => by rw [hY]; exact .inl h
  have hI1 : IsB B Y b l w1 := hb.bel hb1 fun k h => by
    rw [hY] at h
    rcases h with h | rfl
    · exact .inl h
    · exact .inr ⟨by omega, hB1.lt⟩
  have hA1 : ∀ W, Off (fun k => ¬ Y k) w1 W → SsAt Y W vA vs ∧ CnAt Y W cA cs := fun W hW => by
    have h1 := (hT.1.mono hXY).off (Off.of_new hb1 (fun k => ¬ Y k)) (fun b hb hn => hn hb)
    have h2 := (hT.2.mono hXY).off (Off.of_new hb1 (fun k => ¬ Y k)) (fun b hb hn => hn hb)
    exact ⟨h1.off hW fun b hb hn => hn hb, h2.off hW fun b hb hn => hn hb⟩
  have HX : Hid (∀ W, Off (fun k => ¬ Y k) w1 W → W.cell? ⟨q, 0, none⟩ = some (.int .u8 1) ∧ W.cell? ⟨q, 1, none⟩ = some (.string (str nm)) ∧ W.cell? ⟨q, 2, none⟩ = some (.slice vA vl vc) ∧ W.cell? ⟨q, 3, none⟩ = some (.slice cA cl cc)) := Lib.hid fun W hW => by
    have h := hB1.off hW fun h => h hYq
    exact ⟨h.cell 0, h.cell 1, h.cell 2, h.cell 3⟩
  have HEND : Hid (∀ (w9 : World) (l9 : List UInt8), IsB B Y b l9 w9 → Off (fun k => ¬ Y k) w1 w9 → l9 = l ++ tx → IsB B X b (l ++ tx) w9 ∧ Off (fun k => ¬ X k) w w9) := Lib.hid fun w9 l9 h o e => ⟨by rw [← e]; exact h.mono hXY, (Off.of_new hb1 (fun k => ¬ X k)).trans (o.mono fun k _ h hX => h (hXY k hX))⟩
  have hll : l.length + (9 + vt.length + (nm.length + 3) + ct.length) < 4294967295 := by
    rw [htx] at hl
    simp only [List.length_append, List.length_cons, List.length_nil] at hl
    omega
  have HI := Lib.hid (And.intro hI1 (And.intro hA1 (And.intro hvl (And.intro hcl (And.intro hpr (And.intro htx (And.intro hvt hct)))))))
  have HW := Lib.hid (And.intro hw1 hq)
  have HL := Lib.hid hll
  have hc3 : str nm ++ ⟨#[32, 61, 32]⟩ = str (nm ++ [32, 61, 32]) := by
    apply ByteArray.ext
    simp [str]
  have hmx : ¬ (9223372036854775807 < (str nm).size + 3) := by rw [str_size]; omega
  clear hb hT hb1 hB1 hYq hY hXY hI1 hA1 hw1 hq hvl hcl hpr hl htx hx hvt hct hll
  go_enter Tryz.func33, Tryz.ntmps33
  go_upto_region 1 with fail
  (try rw [HW.out.1])
  (try rw [HW.out.2])
  clear HW
  obtain ⟨x0, x1, x2, x3⟩ := HX.out w1 (Off.refl _ _)
  go_wp2_with fail
  refine (ws_any HI.out.1 [100, 97, 116, 97, 116, 121, 112, 101, 32] _ rfl (by have := HL.out; simp only [List.length_cons, List.length_nil]; omega)).mono ?_
  rintro e w2 ⟨rfl, h2, o2⟩
  have HT2 := Lib.hid (And.intro h2 o2)
  clear h2 o2 x0 x1 x2 x3
  obtain ⟨x0, x1, x2, x3⟩ := HX.out w2 HT2.out.2
  have HV2 := vars_any vs vA vl vc HI.out.2.2.1 (by omega) B Y b _ w2 HT2.out.1 (HI.out.2.1 w2 HT2.out.2).1 (by rw [HI.out.2.2.2.2.2.2.1]; have := HL.out; simp only [List.length_append, List.length_cons, List.length_nil]; omega)
  rw [HI.out.2.2.2.2.2.2.1] at HV2
  replace HV2 := Lib.hid HV2
  go_wp2_with fail
  refine HV2.out.mono ?_
  rintro e w3 ⟨rfl, h3, o3⟩
  have HT3 := Lib.hid (And.intro h3 (HT2.out.2.trans o3))
  clear h3 o3 x0 x1 x2 x3 HV2
  obtain ⟨x0, x1, x2, x3⟩ := HX.out w3 HT3.out.2
  go_wp2_with fail
  refine (ws_any HT3.out.1 (nm ++ [32, 61, 32]) _ rfl (by have := HL.out; simp only [List.length_append, List.length_cons, List.length_nil]; omega)).mono ?_
  rintro e w4 ⟨rfl, h4, o4⟩
  have HT4 := Lib.hid (And.intro h4 (HT3.out.2.trans o4))
  clear h4 o4 x0 x1 x2 x3
  obtain ⟨x0, x1, x2, x3⟩ := HX.out w4 HT4.out.2
  have HV4 := between_con conT [32, 124, 32] ⟨#[32, 124, 32]⟩ rfl cs (fun t ht A c => con_any t (HI.out.2.2.2.2.1 t ht) A c) cA cl cc HI.out.2.2.2.1 (by omega) B Y b _ w4 HT4.out.1 (HI.out.2.1 w4 HT4.out.2).2 (by rw [HI.out.2.2.2.2.2.2.2]; have := HL.out; simp only [List.length_append, List.length_cons, List.length_nil]; omega)
  rw [HI.out.2.2.2.2.2.2.2] at HV4
  replace HV4 := Lib.hid HV4
  go_wp2_with fail
  refine HV4.out.mono ?_
  rintro e w5 ⟨rfl, h5, o5⟩
  have HP := Lib.hid (HEND.out w5 _ h5 (HT4.out.2.trans o5) (by rw [HI.out.2.2.2.2.2.1]; simp [List.append_assoc]))
  clear h5 o5
  go_wp2_with fail
  go_end0
  exact ⟨rfl, HP.out⟩
set_option maxRecDepth 100000 in
set_option maxHeartbeats 8000000 in
theorem told_ty (k : Nat) (nm : List UInt8) (n : Int) (A : Option Addr) (tl c : Nat) (tx : List UInt8) (K : (Nat → Prop) → World → Prop) (hKm : ∀ X Y w w', K X w → (∀ k, X k → Y k) → Off (fun k => ¬ Y k) w w' → K Y w') (hput : PutC 31 (.agg #[.int .u8 (k : Int), .string (str nm), .int .i64 n, .slice A tl c]) tx K) (w : World) (hnm : NumK w.heap.size w) (hK : K (fun k => k < w.heap.size) w) (hl : tx.length < 4294967295) :
    Calls Tryz.prog 30 #[.agg #[.int .u8 (k : Int), .string (str nm), .int .i64 n, .slice A tl c], .func (.func 31) #[] #[]] w fun e w' => e = .returned (.string (str tx)) ∧ Below w.heap.size w w' := by
  obtain ⟨w1, hw1⟩ : ∃ W, w.alloc (.cells #[.int .u8 (k : Int), .string (str nm), .int .i64 n, .slice A tl c] 24) = W := ⟨_, rfl⟩
  have hb1 : Below w.heap.size w w1 := by rw [← hw1]; exact (Below.refl _ _).alloc (Nat.le_refl _) _
  have hB1 : Blk w1 w.heap.size 24 #[.int .u8 (k : Int), .string (str nm), .int .i64 n, .slice A tl c] := by rw [← hw1]; exact Blk.new _ _ _
  obtain ⟨q, hq⟩ : ∃ q, w.heap.size = q := ⟨_, rfl⟩
  have hn1 : w1.heap.size = q + 1 := by rw [← hw1, ← hq]; simp
  rw [hq] at hB1
  obtain ⟨w2, hw2⟩ : ∃ W, w1.alloc (.cells #[.pointer none, .slice none 0 0] 93) = W := ⟨_, rfl⟩
  have hb2 : Below w1.heap.size w1 w2 := by rw [← hw2]; exact (Below.refl _ _).alloc (Nat.le_refl _) _
  have hB2 : Blk w2 w1.heap.size 93 #[.pointer none, .slice none 0 0] := by rw [← hw2]; exact Blk.new _ _ _
  rw [hn1] at hB2
  obtain ⟨X, hX⟩ : ∃ X : Nat → Prop, X = fun k => k < q ∨ k = q := ⟨_, rfl⟩
  have hnk : NumK q w2 := by
    rw [← hq]
    exact hnm.bel (hb1.trans (hb2.mono hb1.size))
  have hI2 : IsB q X (q + 1) [] w2 := ⟨.pointer none, .slice none 0 0, .inl rfl, hB2, Nat.le_succ _, World.ownsRow_nil _ _ _ _, (by intro h; cases h), (fun k hk => by
    rw [hX] at hk
    have := hB2.lt
    exact ⟨by omega, by omega, by intro h; cases h⟩), hnk⟩
  have h02 : Below w.heap.size w w2 := hb1.trans (hb2.mono hb1.size)
  have hK2 : K X w2 := hKm _ X w w2 (by rw [hq] at hK; exact hK) (fun k hk => by rw [hX]; exact .inl hk) (Off.of_new h02 _)
  have HX : Hid (∀ W, Off (fun k => ¬ X k) w2 W → W.cell? ⟨q, 0, none⟩ = some (.int .u8 (k : Int)) ∧ W.cell? ⟨q, 1, none⟩ = some (.string (str nm)) ∧ W.cell? ⟨q, 2, none⟩ = some (.int .i64 n) ∧ W.cell? ⟨q, 3, none⟩ = some (.slice A tl c)) := Lib.hid fun W hW => by
    have h := (hB1.below hb2 hB1.lt).off hW fun h => h (by rw [hX]; exact .inr rfl)
    exact ⟨h.cell 0, h.cell 1, h.cell 2, h.cell 3⟩
  have HE : Hid (∀ w3 w4, Off (fun k => ¬ X k) w2 w3 → Below q w3 w4 → Below q w w4) := Lib.hid fun w3 w4 h3 h4 => by
    rw [hq] at h02
    exact (h02.trans (h3.below (by have := h02.size; omega) (fun k hk => by
      rcases Nat.lt_or_ge k q with h | h
      · exact absurd (show X k by rw [hX]; exact .inl h) hk
      · exact h))).trans h4
  have HI := Lib.hid (And.intro hI2 (And.intro hK2 hl))
  have HP := Lib.hid hput
  have HW := Lib.hid (And.intro hw1 (And.intro hq (And.intro hw2 hn1)))
  rw [hq]
  clear hnm hnk hb1 hB1 hw1 hq hw2 hb2 hB2 hX hI2 h02 hK2 hKm hput hK hl hn1
  go_enter Tryz.func30, Tryz.ntmps30
  go_upto_region 2 with fail
  (try rw [HW.out.1])
  (try rw [HW.out.2.1])
  (try rw [HW.out.2.2.1])
  (try rw [HW.out.2.2.2])
  clear HW
  obtain ⟨x0, x1, x2, x3⟩ := HX.out w2 (Off.refl _ _)
  go_wp2_with fail
  refine (HP.out q X (q + 1) [] w2 HI.out.1 HI.out.2.1 (by have := HI.out.2.2; simp only [List.length_nil]; omega)).mono ?_
  rintro e w3 ⟨rfl, h3, o3⟩
  rw [List.nil_append] at h3
  have HT3 := Lib.hid (And.intro h3 o3)
  clear h3 o3 x0 x1 x2 x3 HX HP
  go_wp2_with fail
  refine (bstring_any HT3.out.1).mono ?_
  rintro e w4 ⟨rfl, h4⟩
  have HB := Lib.hid (HE.out w3 w4 HT3.out.2 h4)
  clear h4
  go_wp2_with fail
  go_ret
  exact ⟨rfl, HB.out⟩
set_option maxRecDepth 100000 in
set_option maxHeartbeats 8000000 in
theorem told_dec (k : Nat) (nm : ByteArray) (vA : Option Addr) (vl vc : Nat) (cA : Option Addr) (cl cc : Nat) (r : Rst) (tx : List UInt8) (K : (Nat → Prop) → World → Prop) (hKm : ∀ X Y w w', K X w → (∀ k, X k → Y k) → Off (fun k => ¬ Y k) w w' → K Y w') (hput : PutC 33 (.agg #[.int .u8 (k : Int), .string nm, .slice vA vl vc, .slice cA cl cc, .slice r.fA r.fl r.fc, .int .u8 r.tk, .string r.ts, .int .i64 r.tn, .slice r.tA r.tl r.tc, .int .u8 r.ek, .string r.es, .int .i64 r.en, .string r.et, .slice r.kA r.kl r.kc, .slice r.rA r.rl r.rc, .slice r.dA r.dl r.dc]) tx K) (w : World) (hnm : NumK w.heap.size w) (hK : K (fun k => k < w.heap.size) w) (hl : tx.length < 4294967295) :
    Calls Tryz.prog 32 #[.agg #[.int .u8 (k : Int), .string nm, .slice vA vl vc, .slice cA cl cc, .slice r.fA r.fl r.fc, .int .u8 r.tk, .string r.ts, .int .i64 r.tn, .slice r.tA r.tl r.tc, .int .u8 r.ek, .string r.es, .int .i64 r.en, .string r.et, .slice r.kA r.kl r.kc, .slice r.rA r.rl r.rc, .slice r.dA r.dl r.dc], .func (.func 33) #[] #[]] w fun e w' => e = .returned (.string (str tx)) ∧ Below w.heap.size w w' := by
  obtain ⟨w1, hw1⟩ : ∃ W, w.alloc (.cells #[.int .u8 (k : Int), .string nm, .slice vA vl vc, .slice cA cl cc, .slice r.fA r.fl r.fc, .int .u8 r.tk, .string r.ts, .int .i64 r.tn, .slice r.tA r.tl r.tc, .int .u8 r.ek, .string r.es, .int .i64 r.en, .string r.et, .slice r.kA r.kl r.kc, .slice r.rA r.rl r.rc, .slice r.dA r.dl r.dc] 42) = W := ⟨_, rfl⟩
  have hb1 : Below w.heap.size w w1 := by rw [← hw1]; exact (Below.refl _ _).alloc (Nat.le_refl _) _
  have hB1 : Blk w1 w.heap.size 42 #[.int .u8 (k : Int), .string nm, .slice vA vl vc, .slice cA cl cc, .slice r.fA r.fl r.fc, .int .u8 r.tk, .string r.ts, .int .i64 r.tn, .slice r.tA r.tl r.tc, .int .u8 r.ek, .string r.es, .int .i64 r.en, .string r.et, .slice r.kA r.kl r.kc, .slice r.rA r.rl r.rc, .slice r.dA r.dl r.dc] := by rw [← hw1]; exact Blk.new _ _ _
  obtain ⟨q, hq⟩ : ∃ q, w.heap.size = q := ⟨_, rfl⟩
  have hn1 : w1.heap.size = q + 1 := by rw [← hw1, ← hq]; simp
  rw [hq] at hB1
  obtain ⟨w2, hw2⟩ : ∃ W, w1.alloc (.cells #[.pointer none, .slice none 0 0] 93) = W := ⟨_, rfl⟩
  have hb2 : Below w1.heap.size w1 w2 := by rw [← hw2]; exact (Below.refl _ _).alloc (Nat.le_refl _) _
  have hB2 : Blk w2 w1.heap.size 93 #[.pointer none, .slice none 0 0] := by rw [← hw2]; exact Blk.new _ _ _
  rw [hn1] at hB2
  obtain ⟨X, hX⟩ : ∃ X : Nat → Prop, X = fun k => k < q ∨ k = q := ⟨_, rfl⟩
  have hnk : NumK q w2 := by
    rw [← hq]
    exact hnm.bel (hb1.trans (hb2.mono hb1.size))
  have hI2 : IsB q X (q + 1) [] w2 := ⟨.pointer none, .slice none 0 0, .inl rfl, hB2, Nat.le_succ _, World.ownsRow_nil _ _ _ _, (by intro h; cases h), (fun k hk => by
    rw [hX] at hk
    have := hB2.lt
    exact ⟨by omega, by omega, by intro h; cases h⟩), hnk⟩
  have h02 : Below w.heap.size w w2 := hb1.trans (hb2.mono hb1.size)
  have hK2 : K X w2 := hKm _ X w w2 (by rw [hq] at hK; exact hK) (fun k hk => by rw [hX]; exact .inl hk) (Off.of_new h02 _)
  have HX : Hid (∀ W, Off (fun k => ¬ X k) w2 W → W.cell? ⟨q, 0, none⟩ = some (.int .u8 (k : Int)) ∧ W.cell? ⟨q, 1, none⟩ = some (.string nm) ∧ W.cell? ⟨q, 2, none⟩ = some (.slice vA vl vc) ∧ W.cell? ⟨q, 3, none⟩ = some (.slice cA cl cc) ∧ W.cell? ⟨q, 4, none⟩ = some (.slice r.fA r.fl r.fc) ∧ W.cell? ⟨q, 5, none⟩ = some (.int .u8 r.tk) ∧ W.cell? ⟨q, 6, none⟩ = some (.string r.ts) ∧ W.cell? ⟨q, 7, none⟩ = some (.int .i64 r.tn) ∧ W.cell? ⟨q, 8, none⟩ = some (.slice r.tA r.tl r.tc) ∧ W.cell? ⟨q, 9, none⟩ = some (.int .u8 r.ek) ∧ W.cell? ⟨q, 10, none⟩ = some (.string r.es) ∧ W.cell? ⟨q, 11, none⟩ = some (.int .i64 r.en) ∧ W.cell? ⟨q, 12, none⟩ = some (.string r.et) ∧ W.cell? ⟨q, 13, none⟩ = some (.slice r.kA r.kl r.kc) ∧ W.cell? ⟨q, 14, none⟩ = some (.slice r.rA r.rl r.rc) ∧ W.cell? ⟨q, 15, none⟩ = some (.slice r.dA r.dl r.dc)) := Lib.hid fun W hW => by
    have h := (hB1.below hb2 hB1.lt).off hW fun h => h (by rw [hX]; exact .inr rfl)
    exact ⟨h.cell 0, h.cell 1, h.cell 2, h.cell 3, h.cell 4, h.cell 5, h.cell 6, h.cell 7, h.cell 8, h.cell 9, h.cell 10, h.cell 11, h.cell 12, h.cell 13, h.cell 14, h.cell 15⟩
  have HE : Hid (∀ w3 w4, Off (fun k => ¬ X k) w2 w3 → Below q w3 w4 → Below q w w4) := Lib.hid fun w3 w4 h3 h4 => by
    rw [hq] at h02
    exact (h02.trans (h3.below (by have := h02.size; omega) (fun k hk => by
      rcases Nat.lt_or_ge k q with h | h
      · exact absurd (show X k by rw [hX]; exact .inl h) hk
      · exact h))).trans h4
  have HI := Lib.hid (And.intro hI2 (And.intro hK2 hl))
  have HP := Lib.hid hput
  have HW := Lib.hid (And.intro hw1 (And.intro hq (And.intro hw2 hn1)))
  rw [hq]
  clear hnm hnk hb1 hB1 hw1 hq hw2 hb2 hB2 hX hI2 h02 hK2 hKm hput hK hl hn1
  go_enter Tryz.func32, Tryz.ntmps32
  go_upto_region 2 with fail
  (try rw [HW.out.1])
  (try rw [HW.out.2.1])
  (try rw [HW.out.2.2.1])
  (try rw [HW.out.2.2.2])
  clear HW
  obtain ⟨x0, x1, x2, x3, x4, x5, x6, x7, x8, x9, x10, x11, x12, x13, x14, x15⟩ := HX.out w2 (Off.refl _ _)
  go_wp2_with fail
  refine (HP.out q X (q + 1) [] w2 HI.out.1 HI.out.2.1 (by have := HI.out.2.2; simp only [List.length_nil]; omega)).mono ?_
  rintro e w3 ⟨rfl, h3, o3⟩
  rw [List.nil_append] at h3
  have HT3 := Lib.hid (And.intro h3 o3)
  clear h3 o3 x0 x1 x2 x3 x4 x5 x6 x7 x8 x9 x10 x11 x12 x13 x14 x15 HX HP
  go_wp2_with fail
  refine (bstring_any HT3.out.1).mono ?_
  rintro e w4 ⟨rfl, h4⟩
  have HB := Lib.hid (HE.out w3 w4 HT3.out.2 h4)
  clear h4
  go_wp2_with fail
  go_ret
  exact ⟨rfl, HB.out⟩
set_option maxRecDepth 100000 in
theorem pub_ty (k : Nat) (nm : List UInt8) (n : Int) (A : Option Addr) (tl c : Nat) (tx : List UInt8) (w : World) (hf : ∀ w', Below w.heap.size w w' → Calls Tryz.prog 30 #[.agg #[.int .u8 (k : Int), .string (str nm), .int .i64 n, .slice A tl c], .func (.func 31) #[] #[]] w' fun e w'' => e = .returned (.string (str tx)) ∧ Below w'.heap.size w' w'') :
    Calls Tryz.prog 23 #[.agg #[.int .u8 (k : Int), .string (str nm), .int .i64 n, .slice A tl c]] w fun e w' => e = .returned (.string (str tx)) ∧ Below w.heap.size w w' := by
  obtain ⟨w1, hw1⟩ : ∃ W, w.alloc (.cells #[.int .u8 (k : Int), .string (str nm), .int .i64 n, .slice A tl c] 24) = W := ⟨_, rfl⟩
  have hb1 : Below w.heap.size w w1 := by rw [← hw1]; exact (Below.refl _ _).alloc (Nat.le_refl _) _
  have hB1 : Blk w1 w.heap.size 24 #[.int .u8 (k : Int), .string (str nm), .int .i64 n, .slice A tl c] := by rw [← hw1]; exact Blk.new _ _ _
  obtain ⟨q, hq⟩ : ∃ q, w.heap.size = q := ⟨_, rfl⟩
  rw [hq] at hB1
  have x0 : w1.cell? ⟨q, 0, none⟩ = some (.int .u8 (k : Int)) := hB1.cell 0
  have x1 : w1.cell? ⟨q, 1, none⟩ = some (.string (str nm)) := hB1.cell 1
  have x2 : w1.cell? ⟨q, 2, none⟩ = some (.int .i64 n) := hB1.cell 2
  have x3 : w1.cell? ⟨q, 3, none⟩ = some (.slice A tl c) := hB1.cell 3
  have HF := Lib.hid (hf w1 hb1)
  have HB := Lib.hid hb1
  have HW := Lib.hid (And.intro hw1 hq)
  clear hb1 hB1 hw1 hq hf
  go_enter Tryz.func23, Tryz.ntmps23
  go_upto_region 1 with fail
  (try rw [HW.out.1])
  (try rw [HW.out.2])
  go_wp2_with fail
  refine HF.out.mono ?_
  rintro e w2 ⟨rfl, h2⟩
  have HP := Lib.hid (HB.out.trans (h2.mono HB.out.size))
  clear h2
  go_wp2_with fail
  go_ret
  exact ⟨rfl, HP.out⟩
set_option maxRecDepth 100000 in
theorem pub_dec (k : Nat) (nm : ByteArray) (vA : Option Addr) (vl vc : Nat) (cA : Option Addr) (cl cc : Nat) (r : Rst) (tx : List UInt8) (w : World) (hf : ∀ w', Below w.heap.size w w' → Calls Tryz.prog 32 #[.agg #[.int .u8 (k : Int), .string nm, .slice vA vl vc, .slice cA cl cc, .slice r.fA r.fl r.fc, .int .u8 r.tk, .string r.ts, .int .i64 r.tn, .slice r.tA r.tl r.tc, .int .u8 r.ek, .string r.es, .int .i64 r.en, .string r.et, .slice r.kA r.kl r.kc, .slice r.rA r.rl r.rc, .slice r.dA r.dl r.dc], .func (.func 33) #[] #[]] w' fun e w'' => e = .returned (.string (str tx)) ∧ Below w'.heap.size w' w'') :
    Calls Tryz.prog 24 #[.agg #[.int .u8 (k : Int), .string nm, .slice vA vl vc, .slice cA cl cc, .slice r.fA r.fl r.fc, .int .u8 r.tk, .string r.ts, .int .i64 r.tn, .slice r.tA r.tl r.tc, .int .u8 r.ek, .string r.es, .int .i64 r.en, .string r.et, .slice r.kA r.kl r.kc, .slice r.rA r.rl r.rc, .slice r.dA r.dl r.dc]] w fun e w' => e = .returned (.string (str tx)) ∧ Below w.heap.size w w' := by
  obtain ⟨w1, hw1⟩ : ∃ W, w.alloc (.cells #[.int .u8 (k : Int), .string nm, .slice vA vl vc, .slice cA cl cc, .slice r.fA r.fl r.fc, .int .u8 r.tk, .string r.ts, .int .i64 r.tn, .slice r.tA r.tl r.tc, .int .u8 r.ek, .string r.es, .int .i64 r.en, .string r.et, .slice r.kA r.kl r.kc, .slice r.rA r.rl r.rc, .slice r.dA r.dl r.dc] 42) = W := ⟨_, rfl⟩
  have hb1 : Below w.heap.size w w1 := by rw [← hw1]; exact (Below.refl _ _).alloc (Nat.le_refl _) _
  have hB1 : Blk w1 w.heap.size 42 #[.int .u8 (k : Int), .string nm, .slice vA vl vc, .slice cA cl cc, .slice r.fA r.fl r.fc, .int .u8 r.tk, .string r.ts, .int .i64 r.tn, .slice r.tA r.tl r.tc, .int .u8 r.ek, .string r.es, .int .i64 r.en, .string r.et, .slice r.kA r.kl r.kc, .slice r.rA r.rl r.rc, .slice r.dA r.dl r.dc] := by rw [← hw1]; exact Blk.new _ _ _
  obtain ⟨q, hq⟩ : ∃ q, w.heap.size = q := ⟨_, rfl⟩
  rw [hq] at hB1
  have x0 : w1.cell? ⟨q, 0, none⟩ = some (.int .u8 (k : Int)) := hB1.cell 0
  have x1 : w1.cell? ⟨q, 1, none⟩ = some (.string nm) := hB1.cell 1
  have x2 : w1.cell? ⟨q, 2, none⟩ = some (.slice vA vl vc) := hB1.cell 2
  have x3 : w1.cell? ⟨q, 3, none⟩ = some (.slice cA cl cc) := hB1.cell 3
  have x4 : w1.cell? ⟨q, 4, none⟩ = some (.slice r.fA r.fl r.fc) := hB1.cell 4
  have x5 : w1.cell? ⟨q, 5, none⟩ = some (.int .u8 r.tk) := hB1.cell 5
  have x6 : w1.cell? ⟨q, 6, none⟩ = some (.string r.ts) := hB1.cell 6
  have x7 : w1.cell? ⟨q, 7, none⟩ = some (.int .i64 r.tn) := hB1.cell 7
  have x8 : w1.cell? ⟨q, 8, none⟩ = some (.slice r.tA r.tl r.tc) := hB1.cell 8
  have x9 : w1.cell? ⟨q, 9, none⟩ = some (.int .u8 r.ek) := hB1.cell 9
  have x10 : w1.cell? ⟨q, 10, none⟩ = some (.string r.es) := hB1.cell 10
  have x11 : w1.cell? ⟨q, 11, none⟩ = some (.int .i64 r.en) := hB1.cell 11
  have x12 : w1.cell? ⟨q, 12, none⟩ = some (.string r.et) := hB1.cell 12
  have x13 : w1.cell? ⟨q, 13, none⟩ = some (.slice r.kA r.kl r.kc) := hB1.cell 13
  have x14 : w1.cell? ⟨q, 14, none⟩ = some (.slice r.rA r.rl r.rc) := hB1.cell 14
  have x15 : w1.cell? ⟨q, 15, none⟩ = some (.slice r.dA r.dl r.dc) := hB1.cell 15
  have HF := Lib.hid (hf w1 hb1)
  have HB := Lib.hid hb1
  have HW := Lib.hid (And.intro hw1 hq)
  clear hb1 hB1 hw1 hq hf
  go_enter Tryz.func24, Tryz.ntmps24
  go_upto_region 1 with fail
  (try rw [HW.out.1])
  (try rw [HW.out.2])
  go_wp2_with fail
  refine HF.out.mono ?_
  rintro e w2 ⟨rfl, h2⟩
  have HP := Lib.hid (HB.out.trans (h2.mono HB.out.size))
  clear h2
  go_wp2_with fail
  go_ret
  exact ⟨rfl, HP.out⟩
/-- print.Ty. -/
theorem printTy_any (t : Ty) (hpr : pr t = true) (A : Option Addr) (c : Nat) (w : World) (hnm : NumK w.heap.size w) (hA : Ty.At (fun k => k < w.heap.size) w A t.ks) (hl : (tyT t).length < 4294967295) :
    Calls Tryz.prog 23 #[t.val A c] w fun e w' => e = .returned (.string (str (tyT t))) ∧ Below w.heap.size w w' :=
  pub_ty t.k t.nm t.n A t.ks.length c (tyT t) w fun w1 h1 => told_ty t.k t.nm t.n A t.ks.length c (tyT t) (TyK A t.ks) (fun X Y w w' h hX ho => TyK.more h hX ho) (ty_any t hpr A c) w1 ((hnm.bel h1).up h1.size) ((hA.bel h1).mono fun k hk => Nat.lt_of_lt_of_le hk h1.size) hl
/-- print.Dec, of a datatype. -/
theorem printDec_any (d : Dc) (hk : d.k = 1) (hv : d.vs.length ≤ 2000000) (hc : d.cs.length ≤ 1000000) (hpr : ∀ c ∈ d.cs, c.has = true → pr c.ty = true) (w : World) (hnm : NumK w.heap.size w) (hK : d.K (fun k => k < w.heap.size) w) (hl : (decT d).length < 4294967295) :
    Calls Tryz.prog 24 #[d.val] w fun e w' => e = .returned (.string (str (decT d))) ∧ Below w.heap.size w w' :=
  pub_dec d.k (str d.nm) d.vA d.vs.length d.vc d.cA d.cs.length d.cc d.r (decT d) w fun w1 h1 => told_dec d.k (str d.nm) d.vA d.vs.length d.vc d.cA d.cs.length d.cc d.r (decT d) d.K (fun X Y w w' h hX ho => (Dc.K.mono h hX).off ho fun b hb hn => hn hb) (dec_any d hk hv hc hpr) w1 ((hnm.bel h1).up h1.size)
    ((hK.off (Off.of_new h1 (fun _ => False)) fun _ _ h => h).mono fun k hk => Nat.lt_of_lt_of_le hk h1.size) hl
end Go.Proofs.YtadogebhkldeiaaGreatDoor
