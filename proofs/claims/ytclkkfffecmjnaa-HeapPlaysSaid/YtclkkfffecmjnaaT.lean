/- heap: what is reached, apart from memory. -/
import Derived.Test.YtclkkfffecmjnaaS
namespace Go.Proofs.Ytclkkfffecmjnaa
open Go.RowKit

/-- What is reached from those of which R0 says so. -/
inductive Reach (H : HS) (R0 : Int → Prop) : Nat → Prop
  | root {x : Ho} (hx : x ∈ H.L) (h0 : R0 (x.h : Int)) : Reach H R0 x.h
  | step {x y : Ho} {z : Wd} (hx : x ∈ H.L) (hr : Reach H R0 x.h) (hz : z ∈ x.o.ws) (hk : z.k = 2) (hy : y ∈ H.L) (e : (y.h : Int) = z.n) : Reach H R0 y.h
/-- What is so all along. -/
structure CInv (H : HS) (R0 : Int → Prop) (S : Int → Bool) (V : List Nat) : Prop where
  sound : ∀ i : Int, S i = true → ∃ x ∈ H.L, (x.h : Int) = i ∧ Reach H R0 x.h
  sub : ∀ v ∈ V, S (v : Int) = true
  nodup : V.Nodup
  len : V.length ≤ nS H S
/-- Those that were gone through have all to which they lead reached; but for one. -/
def ClosedX (H : HS) (S : Int → Bool) (V : List Nat) (last : Option Nat) : Prop :=
  ∀ x ∈ H.L, S (x.h : Int) = true → x.h ∉ V → some x.h ≠ last → ∀ z ∈ x.o.ws, z.k = 2 → ∀ y ∈ H.L, (y.h : Int) = z.n → S (y.h : Int) = true
/-- What is left to do. -/
def todo (H : HS) (S : Int → Bool) (V : List Nat) : Nat := 2 * (H.L.length - nS H S) + V.length
section
variable {H : HS} {R0 : Int → Prop} {S : Int → Bool} {V : List Nat}
theorem reachS_keep (k i : Int) (h : S i = true) : reachS H S k i = true := by
  unfold reachS
  split
  · simp [h]
  · exact h
theorem reachS_or {k i : Int} (h : reachS H S k i = true) : S i = true ∨ (i = k ∧ S k = false ∧ (H.obj k).isSome = true) := by
  unfold reachS at h
  split at h
  · rename_i hc
    simp at h
    rcases h with h | h
    · exact .inr ⟨h, hc⟩
    · exact .inl h
  · exact .inl h
theorem reachS_hit {k : Int} (h : (H.obj k).isSome = true) : reachS H S k k = true := by
  unfold reachS
  split
  · simp
  · rename_i hc
    cases hs : S k
    · exact absurd ⟨hs, h⟩ hc
    · rfl
theorem reachV_sub {k : Int} {v : Nat} (h : v ∈ V) : v ∈ reachV H S V k := by
  unfold reachV
  split
  · exact List.mem_append.2 (.inl h)
  · exact h
theorem obj_mem {t : Nat} (hok : H.Ok t) {k : Int} {x : Ho} (hx : x ∈ H.L) (e : (x.h : Int) = k) : H.obj k = some x := by rw [← e]; exact HS.obj_of hok hx
theorem CInv.reach {t : Nat} (h : CInv H R0 S V) (hok : H.Ok t) (k : Int) (hk : ∀ x ∈ H.L, (x.h : Int) = k → Reach H R0 x.h) :
    CInv H R0 (reachS H S k) (reachV H S V k) ∧ todo H (reachS H S k) (reachV H S V k) ≤ todo H S V := by
  by_cases hc : S k = false ∧ (H.obj k).isSome = true
  · have e1 : reachS H S k = fun j => j == k || S j := by unfold reachS; rw [if_pos hc]
    have e2 : reachV H S V k = V ++ [k.toNat] := by unfold reachV; rw [if_pos hc]
    obtain ⟨x, hx⟩ : ∃ x, H.obj k = some x := Option.isSome_iff_exists.1 hc.2
    obtain ⟨hxl, hxk⟩ := HS.obj_some hx
    have hkt : k.toNat = x.h := by omega
    have hn : nS H (fun j => j == k || S j) = nS H S + 1 := count_push hok.rise hxl hxk hc.1
    have hle : nS H (fun j => j == k || S j) ≤ H.L.length := nS_le _ _
    rw [e1, e2]
    refine ⟨⟨fun i hi => ?_, fun v hv => ?_, ?_, by rw [List.length_append, hn]; have := h.len; simp; omega⟩, ?_⟩
    · simp at hi
      rcases hi with hi | hi
      · exact ⟨x, hxl, by rw [hi, hxk], hk x hxl hxk⟩
      · exact h.sound i hi
    · rcases List.mem_append.1 hv with hv | hv
      · simp [h.sub v hv]
      · rw [List.mem_singleton.1 hv, hkt]
        simp [hxk]
    · rw [List.nodup_append]
      refine ⟨h.nodup, by simp, fun a ha b hb e => ?_⟩
      have hb : b = k.toNat := List.mem_singleton.1 hb
      have := h.sub a ha
      rw [show ((a : Nat) : Int) = k by omega, hc.1] at this
      cases this
    · unfold todo
      rw [List.length_append, hn]
      rw [hn] at hle
      simp
      omega
  · have e1 : reachS H S k = S := by unfold reachS; rw [if_neg hc]
    have e2 : reachV H S V k = V := by unfold reachV; rw [if_neg hc]
    rw [e1, e2]
    exact ⟨h, Nat.le_refl _⟩
theorem ClosedX.reach {last : Option Nat} (h : ClosedX H S V last) (k : Int) : ClosedX H (reachS H S k) (reachV H S V k) last := by
  intro x hx hs hv hl z hz hzk y hy e
  rcases reachS_or hs with h1 | ⟨h1, h2⟩
  · exact reachS_keep _ _ (h x hx h1 (fun hv' => hv (reachV_sub hv')) hl z hz hzk y hy e)
  · exfalso
    apply hv
    unfold reachV
    rw [if_pos h2]
    exact List.mem_append.2 (.inr (List.mem_singleton.2 (by omega)))
/-- At the end just what is reached is in. -/
theorem CInv.all (h : CInv H R0 S []) (hc : ClosedX H S [] none) (h0 : ∀ x ∈ H.L, R0 (x.h : Int) → S (x.h : Int) = true) {x : Ho} (hp : H.L.Pairwise fun x y => x.h < y.h) (hx : x ∈ H.L) : S (x.h : Int) = true ↔ Reach H R0 x.h := by
  constructor
  · intro hs
    obtain ⟨y, hy, e, hr⟩ := h.sound _ hs
    have : y.h = x.h := by omega
    rw [← this]; exact hr
  · intro hr
    have : ∀ n, Reach H R0 n → S (n : Int) = true := fun n hr => by
      induction hr with
      | root hx h0' => exact h0 _ hx h0'
      | step hx hr hz hk hy e ih => exact hc _ hx ih (by simp) (by simp) _ hz hk _ hy e
    exact this _ hr
theorem CInv.start : CInv H R0 (fun _ => false) [] := ⟨(fun i h => by cases h), (fun v h => by cases h), List.nodup_nil, Nat.zero_le _⟩
/-- The last one is taken. -/
theorem CInv.pop {v : Nat} (h : CInv H R0 S (V ++ [v])) (hc : ClosedX H S (V ++ [v]) none) : CInv H R0 S V ∧ ClosedX H S V (some v) ∧ todo H S V + 1 = todo H S (V ++ [v]) ∧ v ∉ V := by
  have hnd := h.nodup
  rw [List.nodup_append] at hnd
  have hl := h.len
  rw [List.length_append] at hl
  refine ⟨⟨h.sound, fun u hu => h.sub u (List.mem_append.2 (.inl hu)), hnd.1, by simp at hl; omega⟩, fun x hx hs hv hl => ?_, by unfold todo; rw [List.length_append]; rfl, fun hv => hnd.2.2 v hv v (List.mem_singleton.2 rfl) rfl⟩
  exact hc x hx hs (fun hv' => by
    rcases List.mem_append.1 hv' with h1 | h1
    · exact hv h1
    · exact hl (by rw [List.mem_singleton.1 h1])) (by simp)
end
end Go.Proofs.Ytclkkfffecmjnaa
