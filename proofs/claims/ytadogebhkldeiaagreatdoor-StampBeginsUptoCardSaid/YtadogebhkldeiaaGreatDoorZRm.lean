/- stamp: Own; rows of texts of a call's own; a text begins with its type's. -/
import Derived.Test.YtadogebhkldeiaaGreatDoorZRj
namespace Go.Proofs.YtadogebhkldeiaaGreatDoor
open Go.RowKit Ty
set_option linter.unusedVariables false
set_option linter.unusedSimpArgs false
attribute [local go_sem] Oper.semAt_some
set_option maxRecDepth 20000 in
theorem rown_any (s : List UInt8) (w : World) : Calls Tryz.prog 17 #[.string (str s)] w fun e w' => e = .returned (.tuple #[.int .i64 ((ownN s).1 : Int), .bool (ownN s).2]) ∧ w = w' := by
  obtain ⟨o, ho⟩ : ∃ o, ownN s = o := ⟨_, rfl⟩
  rw [ho]
  have HO := ho
  unfold ownN at HO
  obtain ⟨b1, h1⟩ : ∃ b, decide (s = [105, 110, 116]) = b := ⟨_, rfl⟩
  obtain ⟨b2, h2⟩ : ∃ b, decide (s = [115, 116, 114, 105, 110, 103]) = b := ⟨_, rfl⟩
  obtain ⟨b3, h3⟩ : ∃ b, decide (s = [117, 110, 105, 116]) = b := ⟨_, rfl⟩
  obtain ⟨b4, h4⟩ : ∃ b, decide (s = [98, 111, 111, 108]) = b := ⟨_, rfl⟩
  obtain ⟨b5, h5⟩ : ∃ b, decide (s = [114, 101, 102]) = b := ⟨_, rfl⟩
  obtain ⟨b6, h6⟩ : ∃ b, decide (s = [97, 114, 114, 97, 121]) = b := ⟨_, rfl⟩
  have q1 := strq s _ h1
  have q2 := strq s _ h2
  have q3 := strq s _ h3
  have q4 := strq s _ h4
  have q5 := strq s _ h5
  have q6 := strq s _ h6
  have HV : Hid (o = if b1 || b2 || b3 || b4 then (0, true) else if b5 || b6 then (1, true) else (0, false)) := Lib.hid (by
    rw [← HO, ← h1, ← h2, ← h3, ← h4, ← h5, ← h6]
    simp only [Bool.or_eq_true, decide_eq_true_eq, or_assoc])
  clear h1 h2 h3 h4 h5 h6 ho HO
  cases b1 with
  | true =>
    go_enter Tryz.func17, Tryz.ntmps17
    go_wp2_with fail
    go_ret2
    exact ⟨by rw [HV.out] <;> rfl, rfl⟩
  | false =>
  cases b2 with
  | true =>
    go_enter Tryz.func17, Tryz.ntmps17
    go_wp2_with fail
    go_ret2
    exact ⟨by rw [HV.out] <;> rfl, rfl⟩
  | false =>
  cases b3 with
  | true =>
    go_enter Tryz.func17, Tryz.ntmps17
    go_wp2_with fail
    go_ret2
    exact ⟨by rw [HV.out] <;> rfl, rfl⟩
  | false =>
  cases b4 with
  | true =>
    go_enter Tryz.func17, Tryz.ntmps17
    go_wp2_with fail
    go_ret2
    exact ⟨by rw [HV.out] <;> rfl, rfl⟩
  | false =>
  cases b5 with
  | true =>
    go_enter Tryz.func17, Tryz.ntmps17
    go_wp2_with fail
    go_ret2
    exact ⟨by rw [HV.out] <;> rfl, rfl⟩
  | false =>
  cases b6 with
  | true =>
    go_enter Tryz.func17, Tryz.ntmps17
    go_wp2_with fail
    go_ret2
    exact ⟨by rw [HV.out] <;> rfl, rfl⟩
  | false =>
    go_enter Tryz.func17, Tryz.ntmps17
    go_wp2_with fail
    go_ret2
    exact ⟨by rw [HV.out] <;> rfl, rfl⟩
/-- A row of texts of the call's own. -/
def StO (B : Nat) (w : World) (v : Value) (ss : List (List UInt8)) : Prop := w.ownsRow B 9 1 v ss.length (flatS ss)
section
variable {B : Nat} {w w' : World} {v : Value} {ss : List (List UInt8)}
theorem StO.nil (B : Nat) (w : World) : StO B w (.slice none 0 0) [] := World.ownsRow_nil _ _ _ _
theorem StO.below (h : StO B w v ss) (hb : Below w.heap.size w w') : StO B w' v ss := own_below h hb
theorem StO.shape (h : StO B w v ss) : ∃ A c, v = .slice A ss.length c ∧ SsAt (fun b => B ≤ b ∧ b < w.heap.size) w A ss := by
  rcases h.2 with ⟨rfl, h0⟩ | ⟨g, cap, cur, rfl, hB, hg, h1, h2, h3, h4⟩
  · have : ss = [] := List.eq_nil_of_length_eq_zero h0
    subst this
    exact ⟨none, 0, rfl, fun r d hd => by simp at hd⟩
  · have hbk : Blk w g 9 cur := hg
    refine ⟨_, _, rfl, fun r s hs => ⟨g, 0, rfl, ⟨hB, hbk.lt⟩, hbk.lt, ?_⟩⟩
    have hr := (List.getElem?_eq_some_iff.1 hs).1
    have h5 : (flatS ss)[r]? = some (.string (str s)) := by unfold flatS; rw [List.getElem?_map, hs]; rfl
    rw [← h4, List.getElem?_take_of_lt (by omega)] at h5
    rw [Nat.zero_add, hbk.cell]
    simpa using h5
/-- One text more. -/
theorem StO.app (h : StO B w v ss) (hB : B ≤ w.heap.size) (s : List UInt8) (hn : ss.length < 1000000) {w1 : World} (h1 : w.alloc (.cells #[.string (str s)] 9) = w1) :
    ∃ A' c' w2, (Builtin.append_ #[32, 32] 32 #[v, .slice (some ⟨w.heap.size, 0, none⟩) 1 1]).run Tryz.prog w1 = .ok (.slice A' (ss.length + 1) c') w2 ∧ StO B w2 (.slice A' (ss.length + 1) c') (ss ++ [s]) ∧ Below B w w2 := by
  obtain ⟨i0, hi0, hz0, hz1, hz2⟩ := info_parts infoStr
  have hb1 : Below w.heap.size w w1 := by rw [← h1]; exact (Below.refl _ _).alloc (Nat.le_refl _) _
  have hB1 : Blk w1 w.heap.size 9 #[.string (str s)] := by rw [← h1]; exact Blk.new _ _ _
  have hO1 : w1.ownsRow B 9 1 v ss.length (flatS ss) := own_below h hb1
  have hs1 := hb1.size
  obtain ⟨v', w2, hr, hO, hgr, _, h5⟩ := run_append_own_at (P := Tryz.prog) w1 B 32 32 9 i0 (.string ⟨#[]⟩) 1 16 Tryz.underlying32 hi0 hz0 hz1 hz2 rfl (by decide) v ss.length (flatS ss) hO1 ⟨w.heap.size, 0, none⟩ 1 1 [.string (str s)] rfl
    (fun j u hj => by
      have hj0 : j = 0 := by have := (List.getElem?_eq_some_iff.1 hj).1; simpa using this
      subst hj0
      rw [add_off, Nat.zero_add, hB1.cell 0]
      exact hj)
    (fun u hu => by rw [List.mem_singleton.1 hu]; rfl) (by unfold maxLen; omega) (by omega) (by omega)
  obtain ⟨A', c', rfl⟩ : ∃ A' c', v' = .slice A' (ss.length + 1) c' := by
    rcases hO.2 with ⟨e, h0⟩ | ⟨b, cap, cur, e, _⟩
    · omega
    · exact ⟨_, _, e⟩
  have ho : Off (fun k => v.ownBlock = some k) w1 w2 := Off.of_grown hgr
  refine ⟨A', c', w2, hr, ?_, (hb1.mono hB).trans (ho.below (by omega) fun k hk => (hO1.lt k hk).1)⟩
  unfold StO
  have e : flatS (ss ++ [s]) = flatS ss ++ [.string (str s)] := by unfold flatS; rw [List.map_append]; rfl
  rw [List.length_append, e]
  exact hO
end
-- apart from memory
mutual
/-- No variable, no arrow. -/
def nv : Ty → Bool
  | .node k _ _ ks => (k == 2 || k == 4) && nvs ks
def nvs : List Ty → Bool
  | [] => true
  | t :: ts => nv t && nvs ts
end
theorem nv_eq (k : Nat) (nm : List UInt8) (n : Int) (ks : List Ty) : nv (.node k nm n ks) = ((k == 2 || k == 4) && nvs ks) := by rw [nv]
theorem nvs_mem : ∀ {ts : List Ty} {t : Ty}, nvs ts = true → t ∈ ts → nv t = true
  | u :: ts, t, h, hm => by
    rw [nvs, Bool.and_eq_true] at h
    rcases List.mem_cons.1 hm with rfl | hm
    · exact h.1
    · exact nvs_mem h.2 hm
theorem kept_nv {D : List UInt8 → Option Dc} : ∀ t : Ty, keptB D [] t = true → nv t = true := Ty.ind fun k nm n ks ih hk => by
  rw [keptB_eq] at hk
  rw [nv_eq, Bool.and_eq_true]
  by_cases h1 : k = 1
  · rw [if_pos h1] at hk; simp at hk
  · rw [if_neg h1, Bool.and_eq_true] at hk
    refine ⟨?_, ?_⟩
    · have hk := hk.1
      unfold hdK at hk
      by_cases h4 : k = 4
      · subst h4; rfl
      · by_cases h2 : k = 2
        · subst h2; rfl
        · rw [if_neg h4, if_neg h2] at hk; cases hk
    · have hk := hk.2
      clear h1
      revert ih hk
      generalize ks = l
      intro ih hk
      induction l with
      | nil => rw [nvs]
      | cons t l il =>
        rw [keptBs, Bool.and_eq_true] at hk
        rw [nvs, ih t (List.mem_cons_self ..) hk.1, il (fun x hx => ih x (List.mem_cons_of_mem _ hx)) hk.2]; rfl
theorem text_pre {D : List UInt8 → Option Dc} : ∀ (f i : Nat) (L : List (List UInt8)) (tx R : List UInt8), textF D f i L tx = some R → ∃ r, R = tx ++ r ∧ (L.length ≤ i → r = []) ∧ (i < L.length → tx.length ≤ 200 → r ≠ [])
  | 0, _, _, _, _, h => by rw [textF] at h; cases h
  | f + 1, i, L, tx, R, h => by
    rw [textF] at h
    cases hn : L[i]? with
    | none =>
      rw [hn] at h
      have h : some tx = some R := h
      injection h with h
      have := List.getElem?_eq_none_iff.1 hn
      exact ⟨[], by rw [h, List.append_nil], fun _ => rfl, fun h2 => by omega⟩
    | some nm =>
      rw [hn] at h
      simp only at h
      have hlt := (List.getElem?_eq_some_iff.1 hn).1
      cases hc : consS D ((D nm).getD zDc).vs ((D nm).getD zDc).cs L with
      | none => rw [hc] at h; cases h
      | some L' =>
        rw [hc] at h
        simp only at h
        obtain ⟨r, h1, _, _⟩ := text_pre f (i + 1) L' _ R h
        unfold addT at h1
        by_cases h200 : tx.length ≤ 200
        · rw [if_pos h200] at h1
          refine ⟨[59, 32] ++ decT ((D nm).getD zDc) ++ r, by rw [h1]; simp [List.append_assoc], fun h2 => by omega, fun _ _ e => ?_⟩
          simp at e
        · rw [if_neg h200] at h1
          exact ⟨r, h1, fun h2 => by omega, fun _ h2 => absurd h2 h200⟩
/-- A text begins with its type's, and is that alone just if nothing is come to. -/
theorem res_pre {D : List UInt8 → Option Dc} {N : Nat} {t : Ty} {R : List UInt8} (h : resT D N t = some R) (hl : R.length ≤ 200) : keptB D [] t = true ∧ ∃ r, R = tyT t ++ r ∧ (r = [] ↔ comeL [] (namesT t) = []) := by
  unfold resT at h
  by_cases hk : keptB D [] t = true
  · rw [if_pos hk] at h
    obtain ⟨r, h1, h2, h3⟩ := text_pre _ _ _ _ _ h
    refine ⟨hk, r, h1, fun e => ?_, fun e => h2 (by rw [e]; exact Nat.le_refl _)⟩
    cases hc : comeL [] (namesT t) with
    | nil => rfl
    | cons x l =>
      exact absurd e (h3 (by rw [hc]; simp) (by rw [h1, List.length_append] at hl; omega))
  · rw [if_neg hk] at h; cases h
end Go.Proofs.YtadogebhkldeiaaGreatDoor
