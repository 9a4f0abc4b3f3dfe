/- stamp, numbers too: print, apart from memory; is, closed. -/
import Derived.Test.YtadogebhkldeiaaGreatDoorZB
import Derived.Deep.CutRange
import Derived.Deep.QuietTactic
import Derived.BigQuiet
import Derived.Deep.RegionHeld3
import Derived.Deep.RegionWith
import Derived.StillTailTactics
namespace Go.Proofs.YtadogebhkldeiaaGreatDoor
open Go.RowKit Ty
set_option linter.unusedVariables false
set_option linter.unusedSimpArgs false
attribute [local go_sem] Oper.semAt_some
def joinT (s : List UInt8) : List (List UInt8) → List UInt8
  | [] => []
  | [x] => x
  | x :: y :: l => x ++ s ++ joinT s (y :: l)
def closedT (c : Bool) (s : List UInt8) : List UInt8 := if c then [40] ++ s ++ [41] else s
mutual
/-- A type's text. -/
def tyT : Ty → List UInt8
  | .node k nm n ks => if k = 1 then (if nm.isEmpty then [39, 116] ++ numT n else nm) else if k = 4 then joinT [32, 42, 32] (tights ks) else if k = 2 then (if ks.length = 0 then [] else if ks.length = 1 then joinT [] (tights ks) ++ [32] else [40] ++ joinT [44, 32] (plains ks) ++ [41, 32]) ++ nm else []
def plains : List Ty → List (List UInt8)
  | [] => []
  | t :: ts => tyT t :: plains ts
def tights : List Ty → List (List UInt8)
  | [] => []
  | t :: ts => (match t with | .node k _ _ _ => closedT (k == 3 || k == 4) (tyT t)) :: tights ts
end
def tightT (t : Ty) : List UInt8 := closedT (t.k == 3 || t.k == 4) (tyT t)
theorem plains_map : ∀ ts, plains ts = ts.map tyT
  | [] => by rw [plains]; rfl
  | t :: ts => by rw [plains, plains_map ts]; rfl
theorem tights_map : ∀ ts, tights ts = ts.map tightT
  | [] => by rw [tights]; rfl
  | t :: ts => by
    obtain ⟨k, nm, n, ks⟩ := t
    rw [tights, tights_map ts]; rfl
theorem tyT_eq (t : Ty) : tyT t = if t.k = 1 then (if t.nm.isEmpty then [39, 116] ++ numT t.n else t.nm) else if t.k = 4 then joinT [32, 42, 32] (t.ks.map tightT) else if t.k = 2 then (if t.ks.length = 0 then [] else if t.ks.length = 1 then joinT [] (t.ks.map tightT) ++ [32] else [40] ++ joinT [44, 32] (t.ks.map tyT) ++ [41, 32]) ++ t.nm else [] := by
  obtain ⟨k, nm, n, ks⟩ := t
  rw [tyT, plains_map, tights_map]; rfl
mutual
/-- Types that are printed without arrows. -/
def pr : Ty → Bool
  | .node k _ n ks => if k = 1 then decide (-9223372036854775808 ≤ n ∧ n ≤ 9223372036854775807) else (k == 2 || k == 4) && (decide (ks.length ≤ 1000000) && prs ks)
def prs : List Ty → Bool
  | [] => true
  | t :: ts => pr t && prs ts
end
theorem prs_mem : ∀ {ts : List Ty} {t : Ty}, prs ts = true → t ∈ ts → pr t = true
  | u :: ts, t, h, hm => by
    rw [prs, Bool.and_eq_true] at h
    rcases List.mem_cons.1 hm with rfl | hm
    · exact h.1
    · exact prs_mem h.2 hm
/-- What puts something that has a text: K is kept by what turns nothing of X. -/
def PutC (f : FuncId) (v : Value) (tx : List UInt8) (K : (Nat → Prop) → World → Prop) : Prop := ∀ (B : Nat) (X : Nat → Prop) (b : Nat) (l : List UInt8) (w : World), IsB B X b l w → K X w → l.length + tx.length < 4294967295 →
  Calls Tryz.prog f #[.pointer (some ⟨b, 0, none⟩), v] w fun e w' => e = .returned (.tuple #[]) ∧ IsB B X b (l ++ tx) w' ∧ Off (fun k => ¬ X k) w w'
/-- A row of types lies in X. -/
def TyK (A : Option Addr) (ts : List Ty) (X : Nat → Prop) (w : World) : Prop := Ty.At X w A ts
theorem TyK.more {A : Option Addr} {ts : List Ty} {X Y : Nat → Prop} {w w' : World} (h : TyK A ts X w) (hX : ∀ k, X k → Y k) (ho : Off (fun k => ¬ Y k) w w') : TyK A ts Y w' := (Ty.At.mono h hX).off ho fun b hb hn => hn hb
theorem is_any (k : Nat) (hk : k < 256) (A : Option Addr) (n c : Nat) (bs : List UInt8) (w : World) (hb : Bytes w A bs) (hn : bs.length = n) (hx : n ≤ 1000) :
    Calls Tryz.prog 39 #[.int .u8 (k : Int), .slice A n c] w fun e w' => e = .returned (.bool (bs.any fun c => c.toNat == k)) ∧ w = w' := by
  have HB := Lib.hid (And.intro hb hn)
  clear hb hn
  go_enter Tryz.func39, Tryz.ntmps39
  go_wp2_with fail
  go_loopw [9] (fun v9 wr => ∃ (i : Nat), i ≤ n ∧ v9 = .int .i64 (i : Int) ∧ w = wr ∧ Hid ((bs.take i).any (fun c => c.toNat == k) = false)) (fun v9 _ => n - (intOf v9).toNat)
  case atStart => exact ⟨0, Nat.zero_le _, rfl, rfl, Lib.hid rfl⟩
  case round =>
    obtain ⟨i, hi, rfl, rfl, HI⟩ := hrel
    by_cases hli : i < n
    · have hd : decide ((i : Int) < (n : Int)) = true := by simpa using hli
      obtain ⟨x, hx⟩ : ∃ x, bs[i]? = some x := ⟨_, List.getElem?_eq_getElem (by rw [HB.out.2]; exact hli)⟩
      obtain ⟨b, o, e, _, z0⟩ := HB.out.1 i x hx
      subst e
      obtain ⟨xn, hxn⟩ : ∃ xn, x.toNat = xn := ⟨_, rfl⟩
      rw [hxn] at z0
      by_cases he : xn = k
      · have hq : ((xn : Int) == (k : Int)) = true := by rw [he]; exact beq_self_eq_true _
        have HV : Hid ((bs.any fun c => c.toNat == k) = true) := Lib.hid (List.any_eq_true.2 ⟨x, List.mem_of_getElem? hx, by rw [hxn, he]; exact beq_self_eq_true _⟩)
        clear hx hxn he HI
        go_wp2_with fail
        go_ret
        exact ⟨by rw [HV.out] <;> rfl, rfl⟩
      · have hq : ((xn : Int) == (k : Int)) = false := by rw [beq_eq_false_iff_ne]; omega
        have HN : Hid ((bs.take (i + 1)).any (fun c => c.toNat == k) = false) := Lib.hid (by
          rw [List.take_add_one, hx, List.any_append, HI.out]
          simp [hxn, he])
        clear hx hxn he HI
        go_wp2_with fail
        go_roundw
        case rel => exact ⟨i + 1, by omega, by go_num, trivial, HN⟩
        case measure => simp [intOf]; omega
    · obtain rfl : n = i := by omega
      have hd : decide ((n : Int) < (n : Int)) = false := by simp
      have HV : Hid ((bs.any fun c => c.toNat == k) = false) := Lib.hid (by
        have := HI.out
        rwa [List.take_of_length_le (by rw [HB.out.2]; exact Nat.le_refl _)] at this)
      go_wp2_with fail
      go_ret
      exact ⟨by rw [HV.out] <;> rfl, rfl⟩
set_option maxRecDepth 20000 in
theorem closed_ty (k : Nat) (nm : List UInt8) (n : Int) (A : Option Addr) (tl c : Nat) (ts : List Ty) (tx : List UInt8) (cl : Bool) (hf : PutC 31 (.agg #[.int .u8 (k : Int), .string (str nm), .int .i64 n, .slice A tl c]) tx (TyK A ts)) :
    ∀ (B : Nat) (X : Nat → Prop) (b : Nat) (l : List UInt8) (w : World), IsB B X b l w → TyK A ts X w → l.length + (closedT cl tx).length < 4294967295 →
    Calls Tryz.prog 38 #[.pointer (some ⟨b, 0, none⟩), .agg #[.int .u8 (k : Int), .string (str nm), .int .i64 n, .slice A tl c], .bool cl, .func (.func 31) #[] #[]] w fun e w' => e = .returned (.tuple #[]) ∧ IsB B X b (l ++ closedT cl tx) w' ∧ Off (fun k => ¬ X k) w w' := by
  intro B X b l w hb hT hl
  obtain ⟨w1, hw1⟩ : ∃ W, w.alloc (.cells #[.int .u8 (k : Int), .string (str nm), .int .i64 n, .slice A tl c] 24) = W := ⟨_, rfl⟩
  have hb1 : Below w.heap.size w w1 := by rw [← hw1]; exact (Below.refl _ _).alloc (Nat.le_refl _) _
  have hB1 : Blk w1 w.heap.size 24 #[.int .u8 (k : Int), .string (str nm), .int .i64 n, .slice A tl c] := by rw [← hw1]; exact Blk.new _ _ _
  obtain ⟨q, hq⟩ : ∃ q, w.heap.size = q := ⟨_, rfl⟩
  have hn1 : w1.heap.size = q + 1 := by rw [← hw1, ← hq]; simp
  rw [hq] at hB1
  obtain ⟨Y, hY⟩ : ∃ Y : Nat → Prop, Y = fun k => X k ∨ k = q := ⟨_, rfl⟩
  have hYq : Y q := by rw [hY]; exact .inr rfl
  have hXY : ∀ k, X k → Y k := fun k h => by rw [hY]; exact .inl h
  have hI1 : IsB B Y b l w1 := hb.bel hb1 fun k h => by
    rw [hY] at h
    rcases h with h | rfl
    · exact .inl h
    · exact .inr ⟨by omega, by omega⟩
  have ho1 : Off (fun k => ¬ X k) w w1 := Off.of_new hb1 _
  have hT1 : TyK A ts Y w1 := hT.more hXY (Off.of_new hb1 _)
  have HX : Hid (∀ W, Off (fun k => ¬ Y k) w1 W → W.cell? ⟨q, 0, none⟩ = some (.int .u8 (k : Int)) ∧ W.cell? ⟨q, 1, none⟩ = some (.string (str nm)) ∧ W.cell? ⟨q, 2, none⟩ = some (.int .i64 n) ∧ W.cell? ⟨q, 3, none⟩ = some (.slice A tl c)) := Lib.hid fun W hW => by
    have h := hB1.off hW fun h => h hYq
    exact ⟨h.cell 0, h.cell 1, h.cell 2, h.cell 3⟩
  have HI := Lib.hid (And.intro hI1 (And.intro ho1 (And.intro hT1 (And.intro hXY hl))))
  have HF := Lib.hid hf
  have HW := Lib.hid (And.intro hw1 hq)
  clear hb hT hb1 hB1 hn1 hY hYq hXY hI1 ho1 hT1 hf hw1 hq hl
  go_enter Tryz.func38, Tryz.ntmps38
  go_upto_region 1 with fail
  (try rw [HW.out.1])
  (try rw [HW.out.2])
  clear HW
  cases cl with
  | false =>
    obtain ⟨x0, x1, x2, x3⟩ := HX.out w1 (Off.refl _ _)
    go_wp2_with fail
    refine (HF.out B Y b l w1 HI.out.1 HI.out.2.2.1 HI.out.2.2.2.2).mono ?_
    rintro e w2 ⟨rfl, h2, o2⟩
    have HP : Hid (IsB B X b (l ++ tx) w2 ∧ Off (fun k => ¬ X k) w w2) := Lib.hid ⟨h2.mono HI.out.2.2.2.1, HI.out.2.1.trans (o2.mono fun k _ h hX => h (HI.out.2.2.2.1 k hX))⟩
    clear h2 o2 x0 x1 x2 x3 HX HF HI
    go_wp2_with fail
    go_end0
    exact ⟨rfl, HP.out⟩
  | true =>
    have hlen : l.length + (tx.length + 2) < 4294967295 := by
      have := HI.out.2.2.2.2
      unfold closedT at this
      simp at this
      omega
    go_wp2_with fail
    refine (wb_any HI.out.1 40 40 rfl (by omega)).mono ?_
    rintro e w2 ⟨rfl, h2, o2⟩
    obtain ⟨x0, x1, x2, x3⟩ := HX.out w2 o2
    have HT2 := Lib.hid (And.intro h2 (And.intro o2 (HI.out.2.2.1.more (fun _ h => h) o2)))
    clear h2 o2
    go_wp2_with fail
    refine (HF.out B Y b (l ++ [40]) w2 HT2.out.1 HT2.out.2.2 (by simp; omega)).mono ?_
    rintro e w3 ⟨rfl, h3, o3⟩
    have HT3 := Lib.hid (And.intro h3 (HT2.out.2.1.trans o3))
    clear h3 o3 x0 x1 x2 x3
    go_wp2_with fail
    refine (wb_any HT3.out.1 41 41 rfl (by simp; omega)).mono ?_
    rintro e w4 ⟨rfl, h4, o4⟩
    have HP : Hid (IsB B X b (l ++ closedT true tx) w4 ∧ Off (fun k => ¬ X k) w w4) := Lib.hid ⟨by
      have := h4.mono HI.out.2.2.2.1
      unfold closedT
      simpa using this, HI.out.2.1.trans ((HT3.out.2.trans o4).mono fun k _ h hX => h (HI.out.2.2.2.1 k hX))⟩
    clear h4 o4 HX HF HI HT2 HT3
    go_wp2_with fail
    go_end0
    exact ⟨rfl, HP.out⟩
end Go.Proofs.YtadogebhkldeiaaGreatDoor
