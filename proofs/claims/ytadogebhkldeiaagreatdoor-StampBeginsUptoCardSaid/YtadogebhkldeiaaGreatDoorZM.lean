/- stamp, numbers too: maps from texts; ownCount; Contains. -/
import Derived.Test.YtadogebhkldeiaaGreatDoorZE
import Derived.Maps.OwnOps
import Derived.Maps.Views
import Derived.StringKeys
namespace Go.Proofs.YtadogebhkldeiaaGreatDoor
open Go.RowKit Ty
set_option linter.unusedVariables false
set_option linter.unusedSimpArgs false
attribute [local go_sem] Oper.semAt_some
/-- How any value reads: as itself. -/
def asIs (v : Value) : Option (DataW Value × List MemPlace) := some (.held v, [])
/-- What is there, as a datum. -/
def heldOr : Option Value → DataW Value
  | none => .nil
  | some v => .held v
/-- Block b is a map from texts that says S, of at most n entries. -/
def SMap (w : World) (b n : Nat) (S : List UInt8 → Option Value) : Prop :=
  ∃ D : DataW Value, w.ownsMap Tryz.prog 9 asIs b n D ∧ ∀ s : List UInt8, s.length ≤ maxLen → D.atKey (.string s) .nil = heldOr (S s)
theorem SMap.same {w w' : World} {b n : Nat} {S : List UInt8 → Option Value} (h : SMap w b n S) (hb : w'.heap[b]? = w.heap[b]?) : SMap w' b n S := by
  obtain ⟨D, ⟨es, clock, h1, h2⟩, h3⟩ := h
  exact ⟨D, ⟨es, clock, hb.trans h1, h2⟩, h3⟩
theorem SMap.lt {w : World} {b n : Nat} {S : List UInt8 → Option Value} (h : SMap w b n S) : b < w.heap.size := by obtain ⟨D, h1, _⟩ := h; exact h1.lt
theorem SMap.made (w : World) : SMap (w.alloc (.map #[] 0)) w.heap.size 0 (fun _ => none) := ⟨_, World.ownsMap_made w _ _ _, fun _ _ => rfl⟩
theorem SMap.bel {w w' : World} {b n : Nat} {S : List UInt8 → Option Value} (h : SMap w b n S) (hb : Below w.heap.size w w') : SMap w' b n S := h.same (hb.block _ h.lt)
theorem key_of (s : List UInt8) (hs : s.length ≤ maxLen) : keyOf Tryz.prog 9 (.string (str s)) = some (.string s) := by
  have := Go.WideMaps.keyOf_string_mk (s := str s) Tryz.underlying9 (by simpa [str, ByteArray.size] using hs)
  rw [this]
  simp [str]
theorem SMap.look {w : World} {b n : Nat} {S : List UInt8 → Option Value} (h : SMap w b n S) {t e : TypeId} (ht : Tryz.prog.underlying t = some (.map 9 e)) {z : Value} (hz : (zeroValue e).run Tryz.prog w = .ok z w) (c : Bool) (s : List UInt8) (hs : s.length ≤ maxLen) :
    (Instr.lookup t (.map (some b)) (.string (str s)) c).run Tryz.prog w = .ok (if c then .tuple #[(S s).getD z, .bool (S s).isSome] else (S s).getD z) w := by
  obtain ⟨D, ⟨es, clock, hb, F, _, rfl⟩, h2⟩ := h
  have h3 := h2 s hs
  rcases Maps.fit_look c (Maps.string_keyed Tryz.underlying9) ht hz hb F (key_of s hs) with ⟨hrun, _, hat⟩ | ⟨e0, y, _, _, hrun, hRv, hat, _⟩
  · rw [hat] at h3
    cases hS : S s with
    | none => rw [hrun]; cases c <;> rfl
    | some v => rw [hS] at h3; cases h3
  · rw [hat] at h3
    cases hRv
    cases hS : S s with
    | none => rw [hS] at h3; cases h3
    | some v =>
      rw [hS] at h3
      cases h3
      rw [hrun]; cases c <;> rfl
theorem SMap.put {w : World} {b n : Nat} {S : List UInt8 → Option Value} (h : SMap w b n S) {t e : TypeId} (ht : Tryz.prog.underlying t = some (.map 9 e)) (s : List UInt8) (hs : s.length ≤ maxLen) (v : Value) (hn : n < 1000000) :
    ∃ w', (Instr.mapUpdate t (.map (some b)) (.string (str s)) v).run Tryz.prog w = .ok () w' ∧ SMap w' b (n + 1) (fun x => if x = s then some v else S x) ∧ Off (fun k => k = b) w w' := by
  obtain ⟨D, h1, h2⟩ := h
  obtain ⟨w', hr, h3, h4⟩ := h1.update (Maps.string_keyed Tryz.underlying9) ht (by unfold maxLen; omega) (key_of s hs) (show asIs v = some (.held v, []) from rfl)
  refine ⟨w', hr, ⟨_, h3, fun j hj => ?_⟩, (Off.of_grown h4).mono fun k _ e => by cases e; rfl⟩
  have hM : Maps.IsMap D := by obtain ⟨es, clock, _, _, _, e⟩ := h1; exact ⟨_, e⟩
  by_cases e : j = s
  · subst e
    rw [Maps.atKey_put_same hM (by simp [WideAt.IsKeyLit])]
    simp [heldOr]
  · rw [Maps.atKey_put_other (by simpa using e), h2 j hj]
    show _ = heldOr (if j = s then some v else S j)
    rw [if_neg e]
def ownN (s : List UInt8) : Nat × Bool := if s = [105, 110, 116] ∨ s = [115, 116, 114, 105, 110, 103] ∨ s = [117, 110, 105, 116] ∨ s = [98, 111, 111, 108] then (0, true) else if s = [114, 101, 102] ∨ s = [97, 114, 114, 97, 121] then (1, true) else (0, false)
theorem strq (s c : List UInt8) {b : Bool} (h : decide (s = c) = b) : ((str s).toList == c) = b := by
  rw [str_toList, ← h]
  by_cases e : s = c
  · rw [e]; simp
  · rw [decide_eq_false e]; exact beq_eq_false_iff_ne.2 e
set_option maxRecDepth 20000 in
theorem own_any (s : List UInt8) (w : World) : Calls Tryz.prog 22 #[.string (str s)] w fun e w' => e = .returned (.tuple #[.int .i64 ((ownN s).1 : Int), .bool (ownN s).2]) ∧ w = w' := by
  obtain ⟨o, ho⟩ : ∃ o, ownN s = o := ⟨_, rfl⟩
  rw [ho]
  have HO := ho
  unfold ownN at HO
  obtain ⟨b1, h1⟩ : ∃ b, decide (s = [105, 110, 116]) = b := ⟨_, rfl⟩
  obtain ⟨b2, h2⟩ : ∃ b, decide (s = [115, 116, 114, 105, 110, 103]) = b := ⟨_, rfl⟩
  obtain ⟨b3, h3⟩ : ∃ b, decide (s = [117, 110, 105, 116]) = b := ⟨_, rfl⟩
  obtain ⟨b4, h4⟩ : ∃ b, decide (s = [98, 111, 111, 108]) = b := ⟨_, rfl⟩
  obtain ⟨b5, h5⟩ : ∃ b, decide (s = [114, 101, 102]) = b := ⟨_, rfl⟩
  obtain ⟨b6, h6⟩ : ∃ b, decide (s = [97, 114, 114, 97, 121]) = b := ⟨_, rfl⟩
  have q1 := strq s _ h1
  have q2 := strq s _ h2
  have q3 := strq s _ h3
  have q4 := strq s _ h4
  have q5 := strq s _ h5
  have q6 := strq s _ h6
  have HV : Hid (o = if b1 || b2 || b3 || b4 then (0, true) else if b5 || b6 then (1, true) else (0, false)) := Lib.hid (by
    rw [← HO, ← h1, ← h2, ← h3, ← h4, ← h5, ← h6]
    simp only [Bool.or_eq_true, decide_eq_true_eq, or_assoc])
  clear h1 h2 h3 h4 h5 h6 ho HO
  cases b1 with
  | true =>
    go_enter Tryz.func22, Tryz.ntmps22
    go_wp2_with fail
    go_ret2
    exact ⟨by rw [HV.out] <;> rfl, rfl⟩
  | false =>
  cases b2 with
  | true =>
    go_enter Tryz.func22, Tryz.ntmps22
    go_wp2_with fail
    go_ret2
    exact ⟨by rw [HV.out] <;> rfl, rfl⟩
  | false =>
  cases b3 with
  | true =>
    go_enter Tryz.func22, Tryz.ntmps22
    go_wp2_with fail
    go_ret2
    exact ⟨by rw [HV.out] <;> rfl, rfl⟩
  | false =>
  cases b4 with
  | true =>
    go_enter Tryz.func22, Tryz.ntmps22
    go_wp2_with fail
    go_ret2
    exact ⟨by rw [HV.out] <;> rfl, rfl⟩
  | false =>
  cases b5 with
  | true =>
    go_enter Tryz.func22, Tryz.ntmps22
    go_wp2_with fail
    go_ret2
    exact ⟨by rw [HV.out] <;> rfl, rfl⟩
  | false =>
  cases b6 with
  | true =>
    go_enter Tryz.func22, Tryz.ntmps22
    go_wp2_with fail
    go_ret2
    exact ⟨by rw [HV.out] <;> rfl, rfl⟩
  | false =>
    go_enter Tryz.func22, Tryz.ntmps22
    go_wp2_with fail
    go_ret2
    exact ⟨by rw [HV.out] <;> rfl, rfl⟩
theorem str_eqb (a b : List UInt8) : ((str a).toList == (str b).toList) = decide (a = b) := by
  rw [str_toList, str_toList]
  by_cases e : a = b
  · rw [e]; simp
  · rw [decide_eq_false e]; exact beq_eq_false_iff_ne.2 e
set_option maxRecDepth 20000 in
theorem index_any (X : Nat → Prop) (ss : List (List UInt8)) (s : List UInt8) (A : Option Addr) (n c : Nat) (w : World) (h : SsAt X w A ss) (hn : ss.length = n) (hx : n ≤ 9223372036854775807) :
    Calls Tryz.prog 34 #[.slice A n c, .string (str s)] w fun e w' => (∃ z : Int, e = .returned (.int .i64 z) ∧ (decide (0 ≤ z)) = decide (s ∈ ss)) ∧ w = w' := by
  have HB := Lib.hid (And.intro h hn)
  clear h hn
  go_enter Tryz.func34, Tryz.ntmps34
  go_wp2_with fail
  go_loopw [8] (fun v8 wr => ∃ (i : Nat), i ≤ n ∧ v8 = .int .i64 (i : Int) ∧ w = wr ∧ Hid (s ∉ ss.take i)) (fun v8 _ => n - (intOf v8).toNat)
  case atStart => exact ⟨0, Nat.zero_le _, rfl, rfl, Lib.hid (by simp)⟩
  case round =>
    obtain ⟨i, hi, rfl, rfl, HI⟩ := hrel
    by_cases hli : i < n
    · have hd : decide ((i : Int) < (n : Int)) = true := by simpa using hli
      obtain ⟨x, hx⟩ : ∃ x, ss[i]? = some x := ⟨_, List.getElem?_eq_getElem (by rw [HB.out.2]; exact hli)⟩
      obtain ⟨b, o, e, _, _, z0⟩ := HB.out.1 i x hx
      subst e
      by_cases he : s = x
      · have hq := str_eqb s x
        rw [decide_eq_true he] at hq
        have HV : Hid (decide (0 ≤ (i : Int)) = decide (s ∈ ss)) := Lib.hid (by
          rw [decide_eq_true (by omega), decide_eq_true]
          rw [he]; exact List.mem_of_getElem? hx)
        clear hx he HI
        go_wp2_with fail
        go_ret
        exact ⟨⟨_, rfl, HV.out⟩, rfl⟩
      · have hq := str_eqb s x
        rw [decide_eq_false he] at hq
        have HN : Hid (s ∉ ss.take (i + 1)) := Lib.hid (by
          rw [List.take_add_one, hx]
          intro hm
          rcases List.mem_append.1 hm with hm | hm
          · exact HI.out hm
          · exact he (by simpa using hm))
        clear hx he HI
        go_wp2_with fail
        go_roundw
        case rel => exact ⟨i + 1, by omega, by go_num, trivial, HN⟩
        case measure => simp [intOf]; omega
    · obtain rfl : n = i := by omega
      have hd : decide ((n : Int) < (n : Int)) = false := by simp
      have HV : Hid (decide (0 ≤ (-1 : Int)) = decide (s ∈ ss)) := Lib.hid (by
        have := HI.out
        rw [List.take_of_length_le (by rw [HB.out.2]; exact Nat.le_refl _)] at this
        rw [decide_eq_false this]; rfl)
      go_wp2_with fail
      go_ret
      exact ⟨⟨_, rfl, HV.out⟩, rfl⟩
set_option maxRecDepth 20000 in
theorem contains_any (X : Nat → Prop) (ss : List (List UInt8)) (s : List UInt8) (A : Option Addr) (n c : Nat) (w : World) (h : SsAt X w A ss) (hn : ss.length = n) (hx : n ≤ 9223372036854775807) :
    Calls Tryz.prog 28 #[.slice A n c, .string (str s)] w fun e w' => e = .returned (.bool (decide (s ∈ ss))) ∧ w = w' := by
  have H := Lib.hid (index_any X ss s A n c w h hn hx)
  clear h hn hx
  go_enter Tryz.func28, Tryz.ntmps28
  go_wp2_with fail
  refine H.out.mono ?_
  rintro e w' ⟨⟨z, rfl, hz⟩, rfl⟩
  have HZ := Lib.hid hz
  clear hz
  go_wp2_with fail
  go_ret
  exact ⟨by rw [← HZ.out] <;> rfl, rfl⟩
end Go.Proofs.YtadogebhkldeiaaGreatDoor
