/- stamp, numbers too: tyTight, between. -/
import Derived.Test.YtadogebhkldeiaaGreatDoorZP
namespace Go.Proofs.YtadogebhkldeiaaGreatDoor
open Go.RowKit Ty
set_option linter.unusedVariables false
set_option linter.unusedSimpArgs false
attribute [local go_sem] Oper.semAt_some
theorem joinT_snoc (s x : List UInt8) : ∀ L : List (List UInt8), L ≠ [] → joinT s (L ++ [x]) = joinT s L ++ s ++ x
  | [], h => absurd rfl h
  | [y], _ => rfl
  | y :: z :: L, _ => by
    show y ++ s ++ joinT s (z :: L ++ [x]) = y ++ s ++ joinT s (z :: L) ++ s ++ x
    rw [joinT_snoc s x (z :: L) (by simp)]
    simp
theorem joinT_le (s : List UInt8) : ∀ (L : List (List UInt8)) (i : Nat), (joinT s (L.take i)).length ≤ (joinT s L).length
  | [], i => by simp [joinT]
  | [x], 0 => by simp [joinT]
  | [x], i + 1 => by simp
  | x :: y :: L, 0 => by simp [joinT]
  | x :: y :: L, 1 => by simp [joinT]
  | x :: y :: L, i + 2 => by
    have := joinT_le s (y :: L) (i + 1)
    rw [List.take_succ_cons, List.take_succ_cons]
    rw [List.take_succ_cons] at this
    simp only [joinT, List.length_append]
    omega
/-- One more of a row of texts. -/
theorem joinT_next {s : List UInt8} {L : List (List UInt8)} {i : Nat} {x : List UInt8} (h : L[i]? = some x) : joinT s (L.take (i + 1)) = (if i = 0 then [] else joinT s (L.take i) ++ s) ++ x := by
  have hi := (List.getElem?_eq_some_iff.1 h).1
  rw [List.take_add_one, h]
  by_cases h0 : i = 0
  · subst h0; simp [joinT]
  · rw [if_neg h0]
    show joinT s (L.take i ++ [x]) = _
    rw [joinT_snoc s x _ (fun e => by
      have h5 := congrArg List.length e
      rw [List.length_take, List.length_nil] at h5
      omega)]
theorem tight_any (k : Nat) (hk : k < 256) (nm : List UInt8) (n : Int) (A : Option Addr) (tl c : Nat) (ts : List Ty) (tx : List UInt8) (hf : PutC 31 (.agg #[.int .u8 (k : Int), .string (str nm), .int .i64 n, .slice A tl c]) tx (TyK A ts)) :
    PutC 41 (.agg #[.int .u8 (k : Int), .string (str nm), .int .i64 n, .slice A tl c]) (closedT (k == 3 || k == 4) tx) (TyK A ts) := by
  intro B X b l w hb hT hl
  obtain ⟨w1, hw1⟩ : ∃ W, w.alloc (.cells #[.int .u8 (k : Int), .string (str nm), .int .i64 n, .slice A tl c] 24) = W := ⟨_, rfl⟩
  have hb1 : Below w.heap.size w w1 := by rw [← hw1]; exact (Below.refl _ _).alloc (Nat.le_refl _) _
  have hB1 : Blk w1 w.heap.size 24 #[.int .u8 (k : Int), .string (str nm), .int .i64 n, .slice A tl c] := by rw [← hw1]; exact Blk.new _ _ _
  obtain ⟨q, hq⟩ : ∃ q, w.heap.size = q := ⟨_, rfl⟩
  rw [hq] at hB1
  obtain ⟨cl, hcl⟩ : ∃ cl, (k == 3 || k == 4) = cl := ⟨_, rfl⟩
  rw [hcl] at hl ⊢
  obtain ⟨w2, hw2⟩ : ∃ W, w1.drew.alloc (.cells #[.int .u8 3, .int .u8 4] 5) = W := ⟨_, rfl⟩
  have hb2 : Below w1.heap.size w1 w2 := by rw [← hw2]; exact (Below.refl _ w1).drew.alloc (Nat.le_refl _) _
  have hB2 : Blk w2 w1.heap.size 5 (row8 [3, 4]) := by rw [← hw2]; exact Blk.new w1.drew _ _
  have HIS := Lib.hid (is_any k hk (some ⟨w1.heap.size, 0, none⟩) 2 2 [3, 4] w2 (Bytes.row hB2) rfl (by decide))
  have hany : ([3, 4] : List UInt8).any (fun c => c.toNat == k) = cl := by
    rw [← hcl]
    show ((3 == k) || ((4 == k) || false)) = _
    rw [Bool.or_false, Bool.beq_comm (a := 3), Bool.beq_comm (a := 4)]
  rw [hany] at HIS
  have hb02 : Below w.heap.size w w2 := hb1.trans (hb2.mono hb1.size)
  obtain ⟨Y, hY⟩ : ∃ Y : Nat → Prop, Y = fun k => X k ∨ k = q := ⟨_, rfl⟩
  have hYq : Y q := by rw [hY]; exact .inr rfl
  have hXY : ∀ k, X k → Y k := fun k h => by rw [hY]; exact .inl h
  have hI2 : IsB B Y b l w2 := hb.bel hb02 fun k h => by
    rw [hY] at h
    rcases h with h | rfl
    · exact .inl h
    · exact .inr ⟨by omega, Nat.lt_of_lt_of_le hB1.lt hb2.size⟩
  have HX : Hid (∀ W, Off (fun k => ¬ Y k) w1 W → W.cell? ⟨q, 0, none⟩ = some (.int .u8 (k : Int)) ∧ W.cell? ⟨q, 1, none⟩ = some (.string (str nm)) ∧ W.cell? ⟨q, 2, none⟩ = some (.int .i64 n) ∧ W.cell? ⟨q, 3, none⟩ = some (.slice A tl c)) := Lib.hid fun W hW => by
    have h := hB1.off hW fun h => h hYq
    exact ⟨h.cell 0, h.cell 1, h.cell 2, h.cell 3⟩
  have HCL := Lib.hid (closed_ty k nm n A tl c ts tx cl hf B Y b l w2 hI2 (hT.more hXY (Off.of_new hb02 _)) hl)
  have HO := Lib.hid (And.intro (And.intro (Off.of_new hb02 (fun k => ¬ X k)) hXY) (And.intro (Off.of_new hb2 (fun k => ¬ Y k)) (And.intro hw1 (And.intro hq hw2))))
  clear hI2 hY hYq hXY hb hT hb1 hB1 hf hl hw1 hq hw2 hb2 hB2 hb02 hany hcl
  go_enter Tryz.func41, Tryz.ntmps41
  go_upto_region 1 with fail
  (try rw [HO.out.2.2.1])
  (try rw [HO.out.2.2.2.1])
  have hw2a : (w1.alloc (.cells #[.int .u8 3, .int .u8 4] 5)).drew = w2 := HO.out.2.2.2.2
  have HW2 := Lib.hid hw2a
  clear hw2a
  go_region_held3 (fun W => W.cell? ⟨q, 0, none⟩ = some (.int .u8 (k : Int)) ∧ W.cell? ⟨q, 1, none⟩ = some (.string (str nm)) ∧ W.cell? ⟨q, 2, none⟩ = some (.int .i64 n) ∧ W.cell? ⟨q, 3, none⟩ = some (.slice A tl c))
    (first | exact HX.out _ (Off.drew _ w1) | exact HX.out _ (HO.out.2.1.trans o9) | exact HX.out _ HO.out.2.1 | exact HX.out _ (Off.of_new ((Below.refl _ w1).alloc (Nat.le_refl _) _).drew _) | exact HX.out _ (Off.of_new ((Below.refl _ w1).drew.alloc (Nat.le_refl _) _) _))
    (first
      | (go_at_call 39; (try rw [HW2.out]); refine Calls.mono HIS.out ?_; rintro e w' ⟨rfl, rfl⟩)
      | (go_at_call 38; (try rw [HW2.out]); refine Calls.mono HCL.out ?_; rintro e w9 ⟨rfl, h9, o9⟩))
  all_goals
    have HP : Hid (IsB B X b (l ++ closedT cl tx) w9 ∧ Off (fun k => ¬ X k) w w9) := Lib.hid ⟨h9.mono HO.out.1.2, HO.out.1.1.trans (o9.mono fun k _ h hX => h (HO.out.1.2 k hX))⟩
    clear h9 o9
    go_wp2_with fail
    go_end0
    exact ⟨rfl, HP.out⟩
end Go.Proofs.YtadogebhkldeiaaGreatDoor
