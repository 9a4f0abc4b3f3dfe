/- types: Free. -/
import Derived.Test.YtndhojnfjlkojaaX
import Derived.Test.YtndhojnfjlkojaaV
import Derived.Test.YtndhojnfjlkojaaJ
import Derived.Maps.OwnOps
import Derived.Maps.Views
import Derived.Laws.EntriesVeiled
namespace Go.Proofs.Ytndhojnfjlkojaa
open Go.RowKit
set_option linter.unusedVariables false
set_option linter.unusedSimpArgs false
attribute [local go_sem] Oper.semAt_some
open Ty
/-- Block b is a map of booleans that says S, of at most n entries. -/
def KMap (w : World) (b n : Nat) (S : Int → Bool) : Prop :=
  ∃ D : DataW Unit, w.ownsMap Try.prog 3 (plainElem Try.prog 4) b n D ∧ ∀ i : Int, (Lit.int .i64 i).wf = true → D.atKey (.int .i64 i) (.lit (.bool false)) = .lit (.bool (S i))
theorem KMap.same {w w' : World} {b n : Nat} {S : Int → Bool} (h : KMap w b n S) (hb : w'.heap[b]? = w.heap[b]?) : KMap w' b n S := by
  obtain ⟨D, ⟨es, clock, h1, h2⟩, h3⟩ := h
  exact ⟨D, ⟨es, clock, hb.trans h1, h2⟩, h3⟩
theorem KMap.lt {w : World} {b n : Nat} {S : Int → Bool} (h : KMap w b n S) : b < w.heap.size := by obtain ⟨D, h1, _⟩ := h; exact h1.lt
theorem KMap.made (w : World) : KMap (w.alloc (.map #[] 0)) w.heap.size 0 (fun _ => false) := ⟨_, World.ownsMap_made w _ _ _, fun _ _ => rfl⟩
theorem plainElem_bool_inv {P : Program} {e : TypeId} (he : P.underlying e = some .bool) {v : Value} {z : DataW Unit × List MemPlace} (h : plainElem P e v = some z) : ∃ x, v = .bool x ∧ z = (.lit (.bool x), []) := by
  unfold plainElem at h
  rw [he] at h
  cases v <;> simp at h
  exact ⟨_, rfl, h.symm⟩
theorem KMap.look {w : World} {b n : Nat} {S : Int → Bool} (h : KMap w b n S) (i : Int) (hi : (Lit.int .i64 i).wf = true) : (Instr.lookup 64 (.map (some b)) (.int .i64 i) false).run Try.prog w = .ok (.bool (S i)) w := by
  obtain ⟨D, h1, h2⟩ := h
  have hz : (zeroValue 4).run Try.prog w = .ok (.bool false) w := by kernel_rfl
  obtain ⟨v, ps, hr, hv⟩ := h1.lookup (Maps.int_keyed Try.underlying3) Try.underlying64 hz (plainElem_bool Try.underlying4 false) (Maps.keyOf_int_mk Try.underlying3 hi)
  obtain ⟨x, rfl, hx⟩ := plainElem_bool_inv Try.underlying4 hv
  rw [h2 i hi] at hx
  simp only [Prod.mk.injEq, DataW.lit.injEq, Lit.bool.injEq] at hx
  rw [← hx.1] at hr
  exact hr
theorem KMap.put {w : World} {b n : Nat} {S : Int → Bool} (h : KMap w b n S) (i : Int) (hi : (Lit.int .i64 i).wf = true) (hn : n < 1000000) :
    ∃ w', (Instr.mapUpdate 64 (.map (some b)) (.int .i64 i) (.bool true)).run Try.prog w = .ok () w' ∧ KMap w' b (n + 1) (fun j => j == i || S j) ∧ Off (fun k => k = b) w w' := by
  obtain ⟨D, h1, h2⟩ := h
  obtain ⟨w', hr, h3, h4⟩ := h1.update (Maps.int_keyed Try.underlying3) Try.underlying64 (by unfold maxLen; omega) (Maps.keyOf_int_mk Try.underlying3 hi) (plainElem_bool Try.underlying4 true)
  refine ⟨w', hr, ⟨_, h3, fun j hj => ?_⟩, (Off.of_grown h4).mono fun k _ e => by cases e; rfl⟩
  have hM : Maps.IsMap D := by obtain ⟨es, clock, _, _, _, e⟩ := h1; exact ⟨_, e⟩
  by_cases e : j = i
  · subst e
    rw [Maps.atKey_put_same hM (by simp [WideAt.IsKeyLit])]
    simp
  · rw [Maps.atKey_put_other (by simpa using e), h2 j hj]
    have : (j == i) = false := by simpa using e
    simp only [this, Bool.false_or]


theorem own_shape1' {w : World} {B : Nat} {e : TypeId} {v : Value} {n : Nat} {xs : List Value} (h : w.ownsRow B e 1 v n xs) : ∃ A c, v = .slice A n c ∧ n ≤ c ∧ c ≤ maxLen := by
  rcases h.2 with ⟨rfl, h0⟩ | ⟨g, cap, cur, rfl, _, _, h1, h2, _⟩
  · exact ⟨none, 0, by rw [h0], by omega, Nat.zero_le _⟩
  · exact ⟨_, _, rfl, h1, h2⟩
theorem nodup_len : ∀ (N : Nat) (l : List Int), l.Nodup → (∀ x ∈ l, 0 ≤ x ∧ x < (N : Int)) → l.length ≤ N
  | 0, l, _, h => by
    cases l with
    | nil => exact Nat.le_refl _
    | cons x l => have := h x (List.mem_cons_self ..); omega
  | N + 1, l, hn, h => by
    by_cases hm : (N : Int) ∈ l
    · have h1 := nodup_len N (l.erase (N : Int)) (hn.erase _) fun x hx => by
        have h2 := (hn.mem_erase_iff).1 hx
        have h3 := h x h2.2
        have h4 : x ≠ (N : Int) := h2.1
        omega
      rw [List.length_erase_of_mem hm] at h1
      omega
    · have h1 := nodup_len N l hn fun x hx => by
        have h3 := h x hx
        have h4 : x ≠ (N : Int) := fun e => hm (e ▸ hx)
        omega
      omega
/-- What Free's closure works on. -/
structure FrI (B : Nat) (w : World) (pl ps mb : Nat) (fs : List Int) (v : Value) (S : Int → Bool) : Prop where
  l : Blk w pl 44 #[v]
  row : w.ownsRow B 3 1 v fs.length (fs.map fun x => Value.int .i64 x)
  s : Blk w ps 64 #[.map (some mb)]
  m : KMap w mb fs.length S
  lt : pl < B ∧ ps < B ∧ mb < B
  ne : pl ≠ ps ∧ pl ≠ mb ∧ ps ≠ mb
  nd : fs.Nodup
  mem : ∀ i : Int, (Lit.int .i64 i).wf = true → (S i = true ↔ i ∈ fs)
  Bs : B ≤ w.heap.size
def FrJ (B N : Nat) (pl ps mb : Nat) (d : List Int) (w : World) : Prop := ∃ fs v S, FrI B w pl ps mb fs v S ∧ (∀ f ∈ fs, f ∈ d) ∧ ∀ f ∈ fs, 0 ≤ f ∧ f < (N : Int)
theorem FrI.bel {B : Nat} {w w' : World} {pl ps mb : Nat} {fs : List Int} {v : Value} {S : Int → Bool} (h : FrI B w pl ps mb fs v S) (hb : Below w.heap.size w w') : FrI B w' pl ps mb fs v S :=
  ⟨h.l.below hb h.l.lt, own_below h.row hb, h.s.below hb h.s.lt, h.m.same (hb.block _ h.m.lt), h.lt, h.ne, h.nd, h.mem, Nat.le_trans h.Bs hb.size⟩
theorem FrI.more {B N : Nat} {w : World} {pl ps mb : Nat} {fs : List Int} {v : Value} {S : Int → Bool} (h : FrI B w pl ps mb fs v S) (n : Int) (h0 : 0 ≤ n) (h1 : n < (N : Int)) (hN : N ≤ 100000) (hf : ∀ f ∈ fs, 0 ≤ f ∧ f < (N : Int)) (hn : S n = false) :
    ∃ w1, (Instr.mapUpdate 64 (.map (some mb)) (.int .i64 n) (.bool true)).run Try.prog w = .ok () w1 ∧ w1.cell? ⟨pl, 0, none⟩ = some v ∧ ∀ (w2 : World), w1.alloc (.cells #[.int .i64 n] 3) = w2 →
      ∃ v3 w3, (Builtin.append_ #[44, 44] 44 #[v, .slice (some ⟨w1.heap.size, 0, none⟩) 1 1]).run Try.prog w2 = .ok v3 w3 ∧ w3.cell? ⟨pl, 0, none⟩ = some v ∧ (∀ j, w3.frozen? ⟨pl, j, none⟩ = false) ∧
        FrI B (w3.setCell ⟨pl, 0, none⟩ v3) pl ps mb (fs ++ [n]) v3 (fun j => j == n || S j) ∧ Off (fun g => ¬ (g < B ∧ g ≠ pl ∧ g ≠ mb)) w (w3.setCell ⟨pl, 0, none⟩ v3) := by
  have hwf : (Lit.int .i64 n).wf = true := WalkArith.wf_i64 (by omega)
  have hnf : n ∉ fs := fun hm => by
    have := (h.mem n hwf).2 hm
    rw [hn] at this; cases this
  have hlen := nodup_len N fs h.nd hf
  obtain ⟨w1, hr1, hm1, ho1⟩ := h.m.put n hwf (by omega)
  have hl1 := h.l.off ho1 (fun e => h.ne.2.1 e)
  have hs1 := h.s.off ho1 (fun e => h.ne.2.2 e)
  have hrow1 : w1.ownsRow B 3 1 v fs.length (fs.map fun x => Value.int .i64 x) := h.row.kept (row := some mb) ⟨ho1.os, ho1.tape, ho1.output, ho1.size, fun k hk hn => ho1.block k hk fun e => hn (by rw [e])⟩ (by
    cases hv : v.ownBlock with
    | none => exact .inl rfl
    | some b => exact .inr fun e => by have h2 := (h.row.lt b hv).1; have h3 := h.lt.2.2; have := Option.some.inj e; omega)
  refine ⟨w1, hr1, hl1.cell 0, fun w2 hw2 => ?_⟩
  have hb2 : Below w1.heap.size w1 w2 := by rw [← hw2]; exact (Below.refl _ _).alloc (Nat.le_refl _) _
  have hq2 : w2.cell? ⟨w1.heap.size, 0, none⟩ = some (.int .i64 n) := by rw [← hw2]; exact (Blk.new w1 3 #[.int .i64 n]).cell 0
  have hI : (Try.prog.info? 3).map (fun i => (i.zero, i.size, i.bytes)) = some (some (.int .i64 0), 1, 8) := by kernel_rfl
  obtain ⟨i0, hi, hz0, hz1, hz2⟩ := info_parts hI
  have hcell : ∀ (j : Nat) (u : Value), [Value.int .i64 n][j]? = some u → w2.cell? ((⟨w1.heap.size, 0, none⟩ : Addr).add j) = some u := fun j u hj => by
    have e2 : (⟨w1.heap.size, 0, none⟩ : Addr).add j = ⟨w1.heap.size, 0 + j, none⟩ := by unfold Addr.add; split <;> simp_all
    rw [e2, Nat.zero_add]
    rcases j with _ | j
    · cases hj; exact hq2
    · simp at hj
  have hB2 : B ≤ w2.heap.size := Nat.le_trans h.Bs (Nat.le_trans ho1.size hb2.size)
  obtain ⟨v3, w3, hrun, k2, k3, _, k5⟩ := run_append_own_at (P := Try.prog) w2 B 44 44 3 i0 (.int .i64 0) 1 8 Try.underlying44 hi hz0 hz1 hz2 rfl (by decide) v fs.length _ (own_below hrow1 hb2) ⟨w1.heap.size, 0, none⟩ 1 1 [.int .i64 n] (by simp) hcell
    (fun u hu => by rw [List.mem_singleton.1 hu]; rfl) (by unfold maxLen; omega) (by omega) hB2
  have ho3 := Off.of_grown k3
  have hown : ∀ b, v.ownBlock = some b → B ≤ b := fun b hb => (h.row.lt b hb).1
  have hn3 : ∀ b, b < B → ¬ (v.ownBlock = some b) := fun b hb e => by have := hown b e; omega
  have hl3 := (hl1.below hb2 hl1.lt).off ho3 (hn3 pl h.lt.1)
  have hs3 := (hs1.below hb2 hs1.lt).off ho3 (hn3 ps h.lt.2.1)
  have hm3 : KMap w3 mb (fs.length + 1) (fun j => j == n || S j) := (hm1.same (hb2.block _ hm1.lt)).same (ho3.block mb (Nat.lt_of_lt_of_le hm1.lt hb2.size) (hn3 mb h.lt.2.2))
  have hoF : Off (fun g => ¬ (g < B ∧ g ≠ pl ∧ g ≠ mb)) w w3 := ((ho1.mono fun k _ e => fun hk => hk.2.2 e).trans (Off.of_new hb2 _)).trans (ho3.mono fun k _ e => fun hk => hn3 k hk.1 e)
  have hv3 : ∀ b, v3.ownBlock = some b → B ≤ b := fun b hb => by
    rcases k5 with k5 | k5
    · rw [k5] at hb; exact hown b hb
    · rw [k5] at hb; have := Option.some.inj hb; omega
  refine ⟨v3, w3, hrun, hl3.cell 0, hl3.frozen, ⟨?_, ?_, hs3.far (p := ⟨pl, 0, none⟩) (fun e => h.ne.1 e.symm) v3, ?_, h.lt, h.ne, ?_, fun i hi => ?_, ?_⟩, hoF.trans ((Off.setc w3 pl 0 v3).mono fun k _ e => fun hk => hk.2.1 e)⟩
  · have := hl3.set_ 0 v3
    simpa using this
  · rw [List.length_append, List.length_singleton, List.map_append]
    exact ownsRow_setCell_below k2 (a := ⟨pl, 0, none⟩) h.lt.1 v3
  · rw [List.length_append, List.length_singleton]
    exact hm3.same (Below.heap_setCell _ _ _ _ (fun e => h.ne.2.1 e.symm))
  · exact List.nodup_append.2 ⟨h.nd, by simp, fun a ha b hb e => by rw [List.mem_singleton.1 hb] at e; exact hnf (e ▸ ha)⟩
  · rw [List.mem_append, List.mem_singleton, ← h.mem i hi]
    constructor
    · intro hh
      rcases Bool.or_eq_true _ _ ▸ hh with hh | hh
      · exact .inr (by simpa using hh)
      · exact .inl hh
    · intro hh
      rcases hh with hh | hh
      · rw [hh]; simp
      · simp [hh]
  · have := (Off.setc w3 pl 0 v3).size
    have := ho3.size
    omega
set_option maxRecDepth 20000 in
set_option maxHeartbeats 4000000 in
theorem free1_any {B N : Nat} {pl ps mb : Nat} (hN : N ≤ 100000) (n : Int) (d : List Int) (w : World) (hn : 0 ≤ n ∧ n < (N : Int)) (hJ : FrJ B N pl ps mb d w) :
    Calls Try.prog 45 (#[.int .i64 n] ++ #[.pointer (some ⟨ps, 0, none⟩), .pointer (some ⟨pl, 0, none⟩)]) w fun e w' => ∃ b, e = .returned (.bool b) ∧ Off (fun g => ¬ (g < B ∧ g ≠ pl ∧ g ≠ mb)) w w' ∧ (b = true → FrJ B N pl ps mb (d ++ [n]) w') ∧ (b = false → False) := by
  obtain ⟨fs, v, S, hI, hsub, hrg⟩ := hJ
  show Calls Try.prog 45 #[.int .i64 n, .pointer (some ⟨ps, 0, none⟩), .pointer (some ⟨pl, 0, none⟩)] w _
  have hwf : (Lit.int .i64 n).wf = true := WalkArith.wf_i64 (by omega)
  have hlk := hI.m.look n hwf
  have s0 := hI.s.cell 0
  simp only [List.getElem?_toArray, List.getElem?_cons_zero] at s0
  cases hS : S n with
  | true =>
    rw [hS] at hlk
    have HF : Hid (FrJ B N pl ps mb (d ++ [n]) w) := Lib.hid ⟨fs, v, S, hI, fun f hf => List.mem_append.2 (.inl (hsub f hf)), hrg⟩
    clear hI hsub hrg hS hwf hn
    go_enter Try.func45, Try.ntmps45
    go_wp2_with fail
    go_ret
    exact ⟨true, rfl, Off.refl _ _, fun _ => HF.out, fun h => by cases h⟩
  | false =>
    rw [hS] at hlk
    obtain ⟨w1, hr1, c1, hnx⟩ := hI.more n hn.1 hn.2 hN hrg hS
    obtain ⟨w2, hw2⟩ : ∃ w2, w1.alloc (.cells #[.int .i64 n] 3) = w2 := ⟨_, rfl⟩
    obtain ⟨v3, w3, hrun, c3, cf3, hI3, ho3⟩ := hnx w2 hw2
    have HF : Hid (FrJ B N pl ps mb (d ++ [n]) (w3.setCell ⟨pl, 0, none⟩ v3) ∧ Off (fun g => ¬ (g < B ∧ g ≠ pl ∧ g ≠ mb)) w (w3.setCell ⟨pl, 0, none⟩ v3)) := Lib.hid ⟨⟨fs ++ [n], v3, _, hI3, fun f hf => by
      rcases List.mem_append.1 hf with hf | hf
      · exact List.mem_append.2 (.inl (hsub f hf))
      · exact List.mem_append.2 (.inr hf), fun f hf => by
      rcases List.mem_append.1 hf with hf | hf
      · exact hrg f hf
      · rw [List.mem_singleton.1 hf]; exact hn⟩, ho3⟩
    obtain ⟨A3, c3', hv3, _, _⟩ := own_shape1' hI3.row
    obtain ⟨q, hq⟩ : ∃ q, (fs ++ [n]).length = q := ⟨_, rfl⟩
    rw [hq] at hv3
    subst hv3
    have HRUN := Lib.hid hrun
    clear hI hsub hrg hS hwf hn hnx hrun hI3 ho3 hq
    go_enter Try.func45, Try.ntmps45
    go_wp2_with (at_builtin; refine wpList_app rfl _ _ 44 rfl _ _ _ _ rfl rfl HRUN.out ?_; clear HRUN)
    go_ret
    exact ⟨true, rfl, HF.out.2, fun _ => HF.out.1, fun h => by cases h⟩
end Go.Proofs.Ytndhojnfjlkojaa
