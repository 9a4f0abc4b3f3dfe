/- heap: small answers. -/
import Derived.Test.YtclkkfffecmjnaaB
import Derived.BigQuiet
import Derived.Deep.QuietTactic
import Derived.Deep.AppendSrc
import Derived.Lib.SmallJoins
namespace Go.Proofs.Ytclkkfffecmjnaa
open Go.RowKit
attribute [local go_sem] Oper.semAt_some
theorem drewN_below (w : World) (q : Nat) : Below w.heap.size w (w.drewN q) := ⟨rfl, rfl, rfl, Nat.le_refl _, fun _ _ => rfl⟩
theorem str_size (t : List UInt8) : (str t).size = t.length := by unfold str; rfl
section
variable {w : World} {M : Mem} {n : Nat} {H : HS}
theorem HM.told (h : HM w M n H) : w.cell? ⟨M.g, 0, none⟩ = some (.int .i64 (H.limit : Int)) ∧ w.cell? ⟨M.g, 1, none⟩ = some (.int .i64 (H.used : Int)) ∧ w.cell? ⟨M.g, 2, none⟩ = some (.int .i64 (H.count : Int)) ∧ w.cell? ⟨M.g, 3, none⟩ = some (.map (some M.ob)) ∧ w.cell? ⟨M.g, 4, none⟩ = some (.map (some M.oi)) ∧ w.cell? ⟨M.g, 5, none⟩ = some (.map (some M.ha)) ∧ w.frozen? ⟨M.g, 1, none⟩ = false ∧ w.frozen? ⟨M.g, 2, none⟩ = false :=
  ⟨h.head.cell 0, h.head.cell 1, h.head.cell 2, h.head.cell 3, h.head.cell 4, h.head.cell 5, h.head.frozen 1, h.head.frozen 2⟩
theorem at_any (h : HM w M n H) (k : Int) (hk : (Lit.int .i64 k).wf = true) : Calls Try.prog 62 #[.pointer (some ⟨M.g, 0, none⟩), .int .i64 k] w fun e w' => e = .returned (ptrV (atH M.B H.L k)) ∧ w = w' := by
  obtain ⟨_, _, _, c3, _⟩ := h.told
  have hl := h.obs.look k hk
  clear h
  go_enter Try.func62, Try.ntmps62
  go_wp2_with fail
  go_ret
  exact ⟨rfl, rfl⟩
theorem at_nil (k : Int) (w : World) : Calls Try.prog 62 #[.pointer none, .int .i64 k] w fun e w' => e = .returned (.pointer none) ∧ w = w' := by
  go_enter Try.func62, Try.ntmps62
  go_wp2_with fail
  go_ret
  exact ⟨rfl, rfl⟩
theorem used_any (h : HM w M n H) : Calls Try.prog 18 #[.pointer (some ⟨M.g, 0, none⟩)] w fun e w' => e = .returned (.int .i64 (H.used : Int)) ∧ w = w' := by
  obtain ⟨_, c1, _⟩ := h.told
  clear h
  go_enter Try.func18, Try.ntmps18
  go_wp2_with fail
  go_ret
  exact ⟨rfl, rfl⟩
theorem used_nil (w : World) : Calls Try.prog 18 #[.pointer none] w fun e w' => e = .returned (.int .i64 0) ∧ w = w' := by
  go_enter Try.func18, Try.ntmps18
  go_wp2_with fail
  go_ret
  exact ⟨rfl, rfl⟩
theorem limit_any (h : HM w M n H) : Calls Try.prog 22 #[.pointer (some ⟨M.g, 0, none⟩)] w fun e w' => e = .returned (.int .i64 (H.limit : Int)) ∧ w = w' := by
  obtain ⟨c0, _⟩ := h.told
  clear h
  go_enter Try.func22, Try.ntmps22
  go_wp2_with fail
  go_ret
  exact ⟨rfl, rfl⟩
theorem limit_nil (w : World) : Calls Try.prog 22 #[.pointer none] w fun e w' => e = .returned (.int .i64 0) ∧ w = w' := by
  go_enter Try.func22, Try.ntmps22
  go_wp2_with fail
  go_ret
  exact ⟨rfl, rfl⟩
theorem count_any (h : HM w M n H) : Calls Try.prog 20 #[.pointer (some ⟨M.g, 0, none⟩)] w fun e w' => e = .returned (.int .i64 (H.L.length : Int)) ∧ w = w' := by
  obtain ⟨_, _, _, c3, _⟩ := h.told
  have hl := fun ty => h.obs.len ty
  clear h
  go_enter Try.func20, Try.ntmps20
  go_wp2_with fail
  go_ret
  exact ⟨rfl, rfl⟩
theorem count_nil (w : World) : Calls Try.prog 20 #[.pointer none] w fun e w' => e = .returned (.int .i64 0) ∧ w = w' := by
  go_enter Try.func20, Try.ntmps20
  go_wp2_with fail
  go_ret
  exact ⟨rfl, rfl⟩
theorem oid_any (h : HM w M n H) (k : Int) (hk : (Lit.int .i64 k).wf = true) : Calls Try.prog 31 #[.pointer (some ⟨M.g, 0, none⟩), .int .i64 k] w fun e w' => e = .returned (.tuple #[.int .i64 (((H.oidOf k).getD 0 : Nat) : Int), .bool (H.oidOf k).isSome]) ∧ w = w' := by
  obtain ⟨_, _, _, _, c4, _⟩ := h.told
  have hl := h.ois.look k hk
  clear h
  go_enter Try.func31, Try.ntmps31
  go_wp2_with fail
  go_ret2
  exact ⟨rfl, rfl⟩
theorem oid_nil (k : Int) (w : World) : Calls Try.prog 31 #[.pointer none, .int .i64 k] w fun e w' => e = .returned (.tuple #[.int .i64 0, .bool false]) ∧ w = w' := by
  go_enter Try.func31, Try.ntmps31
  go_wp2_with fail
  go_ret2
  exact ⟨rfl, rfl⟩
theorem of_any (h : HM w M n H) (k : Int) (hk : (Lit.int .i64 k).wf = true) : Calls Try.prog 35 #[.pointer (some ⟨M.g, 0, none⟩), .int .i64 k] w fun e w' => e = .returned (.tuple #[.int .i64 (((H.ofOid k).getD 0 : Nat) : Int), .bool (H.ofOid k).isSome]) ∧ w = w' := by
  obtain ⟨_, _, _, _, _, c5, _⟩ := h.told
  have hl := h.has.look k hk
  clear h
  go_enter Try.func35, Try.ntmps35
  go_wp2_with fail
  go_ret2
  exact ⟨rfl, rfl⟩
theorem of_nil (k : Int) (w : World) : Calls Try.prog 35 #[.pointer none, .int .i64 k] w fun e w' => e = .returned (.tuple #[.int .i64 0, .bool false]) ∧ w = w' := by
  go_enter Try.func35, Try.ntmps35
  go_wp2_with fail
  go_ret2
  exact ⟨rfl, rfl⟩
theorem isword_any (k : Nat) (i : Int) (w : World) (hk : k < 256) : Calls Try.prog 68 #[.agg #[.int .u8 (k : Int), .int .i64 i]] w fun e w' => e = .returned (.bool (Hp.wordOk ⟨k, i⟩)) ∧ Below w.heap.size w w' := by
  have hb := (Below.refl w.heap.size w).alloc (Nat.le_refl _) (.cells #[.int .u8 (k : Int), .int .i64 i] 37)
  have HB := Lib.hid hb
  obtain ⟨p, hp⟩ : ∃ p, ((k : Int) == 1) = p := ⟨_, rfl⟩
  obtain ⟨q, hq⟩ : ∃ q, ((k : Int) == 2) = q := ⟨_, rfl⟩
  have hr : Hp.wordOk ⟨k, i⟩ = (p || q) := by
    rw [← hp, ← hq, Bool.eq_iff_iff]
    unfold Hp.wordOk
    simp
    omega
  rw [hr]
  clear hb hr hk
  cases p
  · go_enter Try.func68, Try.ntmps68
    go_wp2_with fail
    go_ret
    exact ⟨rfl, HB.out⟩
  · go_enter Try.func68, Try.ntmps68
    go_wp2_with fail
    go_ret
    exact ⟨rfl, HB.out⟩
theorem size_any (o : Ob) (A : Option Addr) (c : Nat) (w : World) (ho : Hp.small o) : Calls Try.prog 34 #[.agg #[.int .u8 (o.k : Int), .int .i64 o.tag, .slice A o.ws.length c, .string (str o.t)]] w fun e w' => e = .returned (.int .i64 (Hp.sizeO o : Int)) ∧ Below w.heap.size w w' := by
  obtain ⟨k, tag, ws, t⟩ := o
  obtain ⟨h1, h2, h3⟩ := ho
  dsimp only at h1 h2 h3 ⊢
  have hb := (Below.refl w.heap.size w).alloc (Nat.le_refl _) (.cells #[.int .u8 (k : Int), .int .i64 tag, .slice A ws.length c, .string (str t)] 35)
  have HB := Lib.hid hb
  have hts := str_size t
  have hsz : Hp.sizeO ⟨k, tag, ws, t⟩ = if k = 8 then 1 else 1 + ws.length + (t.length + 7) / 8 := rfl
  rw [hsz]
  generalize ws.length = n at *
  generalize t.length = m at *
  clear hb hsz
  by_cases e : k = 8
  · subst e
    rw [if_pos rfl]
    go_enter Try.func34, Try.ntmps34
    go_wp2_with fail
    go_ret
    exact ⟨rfl, HB.out⟩
  · have hk : ((k : Int) == 8) = false := by simp; omega
    have hq : ((m : Int) + 7).tdiv 8 = (((m + 7) / 8 : Nat) : Int) := by rw [Int.tdiv_eq_ediv_of_nonneg (by omega)]; omega
    rw [if_neg e]
    obtain ⟨q, hqq⟩ : ∃ q, (m + 7) / 8 = q := ⟨_, rfl⟩
    rw [hqq] at hq ⊢
    have hqb : q ≤ 100000 := by omega
    clear hqq e
    go_enter Try.func34, Try.ntmps34
    go_wp2_with fail
    go_ret
    exact ⟨by go_num, HB.out⟩
end
end Go.Proofs.Ytclkkfffecmjnaa
