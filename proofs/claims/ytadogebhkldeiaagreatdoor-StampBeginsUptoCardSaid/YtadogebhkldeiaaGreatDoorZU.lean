/- stamp, numbers too: constructors, printed. -/
import Derived.Test.YtadogebhkldeiaaGreatDoorZS
namespace Go.Proofs.YtadogebhkldeiaaGreatDoor
open Go.RowKit Ty
set_option linter.unusedVariables false
set_option linter.unusedSimpArgs false
attribute [local go_sem] Oper.semAt_some
/-- A constructor. -/
structure Cn where
  nm : List UInt8
  has : Bool
  ty : Ty
def Cn.cells (c : Cn) (A : Option Addr) (d : Nat) : List Value := [.string (str c.nm), .bool c.has, .int .u8 (c.ty.k : Int), .string (str c.ty.nm), .int .i64 c.ty.n, .slice A c.ty.ks.length d]
def Cn.val (c : Cn) (A : Option Addr) (d : Nat) : Value := .agg #[.string (str c.nm), .bool c.has, .int .u8 (c.ty.k : Int), .string (str c.ty.nm), .int .i64 c.ty.n, .slice A c.ty.ks.length d]
/-- A row of constructors in memory. -/
def CnAt (X : Nat → Prop) (w : World) (A : Option Addr) (cs : List Cn) : Prop := ∀ (r : Nat) (c : Cn), cs[r]? = some c → ∃ b off A' d, A = some ⟨b, off, none⟩ ∧ X b ∧ b < w.heap.size ∧ (∀ (j : Nat) (v : Value), (c.cells A' d)[j]? = some v → w.cell? ⟨b, off + r * 6 + j, none⟩ = some v) ∧ Te.in_ X w ⟨c.ty, A', d⟩
theorem CnAt.off {X G : Nat → Prop} {w w' : World} {A : Option Addr} {cs : List Cn} (h : CnAt X w A cs) (ho : Off G w w') (hG : ∀ b, X b → ¬ G b) : CnAt X w' A cs := fun r c hc => by
  obtain ⟨b, off, A', d, e, hX, hlt, hcl, hin⟩ := h r c hc
  exact ⟨b, off, A', d, e, hX, Nat.lt_of_lt_of_le hlt ho.size, fun j v hj => (World.cell?_of_block (a := ⟨b, off + r * 6 + j, none⟩) (ho.block b hlt (hG b hX))).trans (hcl j v hj), hin.off ho hG⟩
theorem CnAt.mono {X Y : Nat → Prop} {w : World} {A : Option Addr} {cs : List Cn} (h : CnAt X w A cs) (hX : ∀ b, X b → Y b) : CnAt Y w A cs := fun r c hc => by
  obtain ⟨b, off, A', d, e, h1, hlt, hcl, hin⟩ := h r c hc
  exact ⟨b, off, A', d, e, hX b h1, hlt, hcl, hin.mono hX⟩
/-- A row of texts in memory. -/
def SsAt (X : Nat → Prop) (w : World) (A : Option Addr) (ss : List (List UInt8)) : Prop := ∀ (r : Nat) (s : List UInt8), ss[r]? = some s → ∃ b off, A = some ⟨b, off, none⟩ ∧ X b ∧ b < w.heap.size ∧ w.cell? ⟨b, off + r, none⟩ = some (.string (str s))
theorem SsAt.off {X G : Nat → Prop} {w w' : World} {A : Option Addr} {ss : List (List UInt8)} (h : SsAt X w A ss) (ho : Off G w w') (hG : ∀ b, X b → ¬ G b) : SsAt X w' A ss := fun r c hc => by
  obtain ⟨b, off, e, hX, hlt, hcl⟩ := h r c hc
  exact ⟨b, off, e, hX, Nat.lt_of_lt_of_le hlt ho.size, (World.cell?_of_block (a := ⟨b, off + r, none⟩) (ho.block b hlt (hG b hX))).trans hcl⟩
theorem SsAt.mono {X Y : Nat → Prop} {w : World} {A : Option Addr} {ss : List (List UInt8)} (h : SsAt X w A ss) (hX : ∀ b, X b → Y b) : SsAt Y w A ss := fun r c hc => by
  obtain ⟨b, off, e, h1, hlt, hcl⟩ := h r c hc
  exact ⟨b, off, e, hX b h1, hlt, hcl⟩
def conT (c : Cn) : List UInt8 := if c.has then c.nm ++ [32, 111, 102, 32] ++ tyT c.ty else c.nm
set_option maxRecDepth 20000 in
theorem con_any (cn : Cn) (hpr : cn.has = true → pr cn.ty = true) (A : Option Addr) (d : Nat) : PutC 45 (cn.val A d) (conT cn) (TyK A cn.ty.ks) := by
  intro B X b l w hb hT hl
  obtain ⟨nm, has, t⟩ := cn
  obtain ⟨k, tnm, n, ks⟩ := t
  have hT : Ty.At X w A ks := hT
  have hpr : has = true → pr (.node k tnm n ks) = true := hpr
  obtain ⟨tl, htl⟩ : ∃ tl, ks.length = tl := ⟨_, rfl⟩
  show Calls Tryz.prog 45 #[.pointer (some ⟨b, 0, none⟩), .agg #[.string (str nm), .bool has, .int .u8 (k : Int), .string (str tnm), .int .i64 n, .slice A ks.length d]] w fun e w' => e = .returned (.tuple #[]) ∧ IsB B X b (l ++ conT ⟨nm, has, .node k tnm n ks⟩) w' ∧ Off (fun k => ¬ X k) w w'
  have hcT : conT ⟨nm, has, .node k tnm n ks⟩ = if has then nm ++ [32, 111, 102, 32] ++ tyT (.node k tnm n ks) else nm := rfl
  obtain ⟨tx, htx⟩ : ∃ tx, conT ⟨nm, has, .node k tnm n ks⟩ = tx := ⟨_, rfl⟩
  rw [htx] at hl hcT ⊢
  obtain ⟨w1, hw1⟩ : ∃ W, w.alloc (.cells #[.string (str nm), .bool has, .int .u8 (k : Int), .string (str tnm), .int .i64 n, .slice A tl d] 44) = W := ⟨_, rfl⟩
  have hb1 : Below w.heap.size w w1 := by rw [← hw1]; exact (Below.refl _ _).alloc (Nat.le_refl _) _
  have hB1 : Blk w1 w.heap.size 44 #[.string (str nm), .bool has, .int .u8 (k : Int), .string (str tnm), .int .i64 n, .slice A tl d] := by rw [← hw1]; exact Blk.new _ _ _
  obtain ⟨q, hq⟩ : ∃ q, w.heap.size = q := ⟨_, rfl⟩
  rw [hq] at hB1
  obtain ⟨Y, hY⟩ : ∃ Y : Nat → Prop, Y = fun k => X k ∨ k = q := ⟨_, rfl⟩
  have hYq : Y q := by rw [hY]; exact .inr rfl
  have hXY : ∀ k, X k → Y k := fun k h => by rw [hY]; exact .inl h
  have hI1 : IsB B Y b l w1 := hb.bel hb1 fun k h => by
    rw [hY] at h
    rcases h with h | rfl
    · exact .inl h
    · exact .inr ⟨by omega, hB1.lt⟩
  have hA1 : Ty.At Y w1 A ks := (hT.mono hXY).off (Off.of_new hb1 (fun k => ¬ Y k)) (fun b hb hn => hn hb)
  have HX : Hid (∀ W, Off (fun k => ¬ Y k) w1 W → W.cell? ⟨q, 0, none⟩ = some (.string (str nm)) ∧ W.cell? ⟨q, 1, none⟩ = some (.bool has) ∧ W.cell? ⟨q, 2, none⟩ = some (.int .u8 (k : Int)) ∧ W.cell? ⟨q, 3, none⟩ = some (.string (str tnm)) ∧ W.cell? ⟨q, 4, none⟩ = some (.int .i64 n) ∧ W.cell? ⟨q, 5, none⟩ = some (.slice A tl d)) := Lib.hid fun W hW => by
    have h := hB1.off hW fun h => h hYq
    exact ⟨h.cell 0, h.cell 1, h.cell 2, h.cell 3, h.cell 4, h.cell 5⟩
  have HEND : Hid (∀ (w9 : World) (l9 : List UInt8), IsB B Y b l9 w9 → Off (fun k => ¬ Y k) w1 w9 → l9 = l ++ tx → IsB B X b (l ++ tx) w9 ∧ Off (fun k => ¬ X k) w w9) := Lib.hid fun w9 l9 h o e => ⟨by rw [← e]; exact h.mono hXY, (Off.of_new hb1 (fun k => ¬ X k)).trans (o.mono fun k _ h hX => h (hXY k hX))⟩
  have HI := Lib.hid (And.intro hI1 (And.intro hA1 (And.intro htl (And.intro hpr (And.intro hl hcT)))))
  have HW := Lib.hid (And.intro hw1 hq)
  rw [htl]
  clear hb hT hb1 hB1 hYq hY hXY hI1 hA1 hw1 hq htl hpr hl hcT htx
  go_enter Tryz.func45, Tryz.ntmps45
  go_upto_region 1 with fail
  (try rw [HW.out.1])
  (try rw [HW.out.2])
  clear HW
  obtain ⟨x0, x1, x2, x3, x4, x5⟩ := HX.out w1 (Off.refl _ _)
  cases has with
  | false =>
    have HV : Hid (tx = nm ∧ l.length + nm.length < 4294967295) := Lib.hid ⟨HI.out.2.2.2.2.2, by have := HI.out.2.2.2.2.1; rw [HI.out.2.2.2.2.2] at this; exact this⟩
    go_wp2_with fail
    refine (ws_any HI.out.1 nm _ rfl (by have := HV.out.2; omega)).mono ?_
    rintro e w2 ⟨rfl, h2, o2⟩
    have HT2 := Lib.hid (And.intro h2 o2)
    clear h2 o2 x0 x1 x2 x3 x4 x5
    obtain ⟨x0, x1, x2, x3, x4, x5⟩ := HX.out w2 HT2.out.2
    have HP := Lib.hid (HEND.out w2 _ HT2.out.1 HT2.out.2 (by rw [HV.out.1]))
    go_wp2_with fail
    go_end0
    exact ⟨rfl, HP.out⟩
  | true =>
    obtain ⟨ty, hty⟩ : ∃ ty, tyT (.node k tnm n ks) = ty := ⟨_, rfl⟩
    have HV : Hid (tx = nm ++ [32, 111, 102, 32] ++ ty ∧ l.length + (nm.length + 4 + ty.length) < 4294967295) := Lib.hid (by
      have h5 := HI.out.2.2.2.2.2
      rw [hty, if_pos rfl] at h5
      refine ⟨h5, ?_⟩
      have := HI.out.2.2.2.2.1
      rw [h5] at this
      simp only [List.length_append, List.length_cons, List.length_nil] at this
      omega)
    have hPT := ty_any (.node k tnm n ks) (HI.out.2.2.2.1 rfl) A d
    rw [hty] at hPT
    change PutC 31 (.agg #[.int .u8 (k : Int), .string (str tnm), .int .i64 n, .slice A ks.length d]) ty (TyK A ks) at hPT
    rw [HI.out.2.2.1] at hPT
    have HPT := Lib.hid hPT
    clear hPT hty
    go_wp2_with fail
    refine (ws_any HI.out.1 nm _ rfl (by have := HV.out.2; omega)).mono ?_
    rintro e w2 ⟨rfl, h2, o2⟩
    have HT2 := Lib.hid (And.intro h2 o2)
    clear h2 o2 x0 x1 x2 x3 x4 x5
    obtain ⟨x0, x1, x2, x3, x4, x5⟩ := HX.out w2 HT2.out.2
    go_wp2_with fail
    refine (ws_any HT2.out.1 [32, 111, 102, 32] _ rfl (by simp only [List.length_append, List.length_cons, List.length_nil]; have := HV.out.2; omega)).mono ?_
    rintro e w3 ⟨rfl, h3, o3⟩
    have HT3 := Lib.hid (And.intro h3 (HT2.out.2.trans o3))
    clear h3 o3 x0 x1 x2 x3 x4 x5
    obtain ⟨x0, x1, x2, x3, x4, x5⟩ := HX.out w3 HT3.out.2
    go_wp2_with fail
    refine (HPT.out B Y b _ w3 HT3.out.1 (HI.out.2.1.off HT3.out.2 fun b hb hn => hn hb) (by simp only [List.length_append, List.length_cons, List.length_nil]; have := HV.out.2; omega)).mono ?_
    rintro e w4 ⟨rfl, h4, o4⟩
    have HP := Lib.hid (HEND.out w4 _ h4 (HT3.out.2.trans o4) (by rw [HV.out.1]; simp [List.append_assoc]))
    clear h4 o4
    go_wp2_with fail
    go_end0
    exact ⟨rfl, HP.out⟩
end Go.Proofs.YtadogebhkldeiaaGreatDoor
