/- types: stays, Put. -/
import Derived.Test.YtndhojnfjlkojaaK
namespace Go.Proofs.Ytndhojnfjlkojaa
open Go.RowKit
set_option linter.unusedVariables false
set_option linter.unusedSimpArgs false
attribute [local go_sem] Oper.semAt_some
theorem results_cell_row2 {P : Program} {fn : Func} {p u : Tmp} {ty : TypeId} (h : fn.results = #[.cell p ty, .tmp u]) (tmps : Array Value) (w : World) (g : Nat) (t : TypeId) (cs : Array Value) (fr : Nat × Nat) (d : TypeDesc)
    (hp : tmps.getD p undef = .pointer (some ⟨g, 0, none⟩)) (hg : w.heap[g]? = some (.cells cs t fr))
    (hu : P.underlying ty = some d) (hd : (match d with | .struct _ | .array _ _ => true | _ => false) = true) (hi : (P.info? ty).map (·.size) = some cs.size) :
    (results fn tmps).run P w = .ok (.tuple #[.agg cs, tmps.getD u undef]) w := by
  have hp' : tmps[p]?.getD undef = .pointer (some ⟨g, 0, none⟩) := by simpa using hp
  simp [results, h, hp', asAddr, run_loadVar_row w g t ty cs fr d hg hu hd hi, Result.andThen]
theorem Made.of_new {w w1 w' : World} {t : Ty} {A : Option Addr} {c : Nat} (h : Made w1 w' t A c) (hb : Below w.heap.size w w1) : Made w w' t A c :=
  ⟨h.len, h.cap, h.at_.mono fun b hb' => ⟨Nat.le_trans hb.size hb'.1, hb'.2⟩, hb.trans (h.bel.mono hb.size), h.ok⟩
theorem Made.off {B : Nat} {w w1 w' : World} {t : Ty} {A : Option Addr} {c : Nat} (h : Made w w1 t A c) {F : Nat → Prop} (ho : Off F w1 w') (hF : ∀ g, F g → w.heap.size ≤ g) (hA : Ty.At (fun b => B ≤ b ∧ b < w1.heap.size) w1 A t.ks) (hB : w.heap.size ≤ B) (hFB : ∀ g, F g → g < B) : Made w w' t A c :=
  ⟨h.len, h.cap, (hA.off ho (fun b hb hf => by have := hFB b hf; have := hb.1; omega)).mono fun b hb => ⟨Nat.le_trans hB hb.1, Nat.lt_of_lt_of_le hb.2 ho.size⟩, h.bel.trans (ho.below h.bel.size hF), h.ok⟩
theorem Made.at_ge {w w' : World} {t : Ty} {A : Option Addr} {c : Nat} (h : Made w w' t A c) : Ty.At (fun b => w.heap.size ≤ b ∧ b < w'.heap.size) w' A t.ks := h.at_
theorem thr_none : ∀ t, thr (fun _ => none) t = t := Ty.ind fun k nm n ks ih => by
  have : ks.map (thr fun _ => none) = ks := by
    rw [List.map_congr_left (g := id) (fun t ht => ih t ht), List.map_id]
  rw [thr, thrs_map, this]
  split <;> simp
def plOf (l : List Ty) (n : Int) : Option Ty := if 0 ≤ n ∧ n < (l.length : Int) then l[n.toNat]? else none
theorem thr_put (l : List Ty) : ∀ t, thr (plOf l) t = Ty.put l t := Ty.ind fun k nm n ks ih => by
  have : ks.map (thr (plOf l)) = ks.map (Ty.put l) := List.map_congr_left fun t ht => ih t ht
  rw [thr, thrs_map, this, Ty.put, Ty.puts_map]
  unfold plOf
  by_cases h1 : k = 1
  · rw [if_pos h1]
    by_cases h2 : 0 ≤ n ∧ n < (l.length : Int)
    · rw [if_pos h2, if_pos ⟨h1, h2.1, h2.2⟩]
      have : n.toNat < l.length := by omega
      rw [List.getElem?_eq_getElem this, Option.getD_some, Option.getD_some]
    · rw [if_neg h2, if_neg (fun h => h2 ⟨h.2.1, h.2.2⟩), Option.getD_none]
  · rw [if_neg h1, if_neg (fun h => h1 h.1)]
theorem ent_stays : Enters Try.prog 36 := enters_of Try.func36 (by kernel_rfl) rfl
theorem ent_put1 : Enters Try.prog 35 := enters_of Try.func35 (by kernel_rfl) rfl
set_option maxRecDepth 20000 in
set_option maxHeartbeats 2000000 in
theorem stays_any (n : Int) (w : World) : Calls Try.prog 36 #[.int .i64 n] w fun e w' => Below w.heap.size w w' ∧ e = .returned (.tuple #[.agg #[.int .u8 0, .string ⟨#[]⟩, .int .i64 0, .slice none 0 0], .bool false]) := by
  obtain ⟨w0, hw0⟩ : ∃ w0, w.alloc (.cells #[.int .u8 0, .string ⟨#[]⟩, .int .i64 0, .slice none 0 0] 24) = w0 := ⟨_, rfl⟩
  have hb0 : Below w.heap.size w w0 := by rw [← hw0]; exact (Below.refl _ _).alloc (Nat.le_refl _) _
  have hB0 : Blk w0 w.heap.size 24 #[.int .u8 0, .string ⟨#[]⟩, .int .i64 0, .slice none 0 0] := by rw [← hw0]; exact Blk.new _ _ _
  have r0 := hB0.cell 0
  have r1 := hB0.cell 1
  have r2 := hB0.cell 2
  have r3 := hB0.cell 3
  simp only [List.getElem?_toArray, List.getElem?_cons_zero, List.getElem?_cons_succ] at r0 r1 r2 r3
  have rf := hB0.frozen
  have HB0 := Lib.hid (And.intro hB0 hb0)
  have HW0 := Lib.hid hw0
  clear hB0 hb0 hw0
  go_enter Try.func36, Try.ntmps36
  go_upto_region 1 with fail
  rw [HW0.out]
  clear HW0
  go_wp2_with fail
  have HB9 := HB0.out.1.set4 (.int .u8 0) (.string ⟨#[]⟩) (.int .i64 0) (.slice none 0 0)
  refine bodyPost_ret (results_cell_row2 rfl _ _ w.heap.size 24 _ (0, 0) _ rfl HB9 Try.underlying24 rfl (by kernel_rfl)) rfl ?_
  have ho := off4 w0 w.heap.size (.int .u8 0) (.string ⟨#[]⟩) (.int .i64 0) (.slice none 0 0)
  exact ⟨HB0.out.2.trans (ho.below HB0.out.2.size (fun g e => by omega)), rfl⟩
/-- A type in memory of its own, all as it was. -/
theorem same_any2 {F : Nat → Prop} (t : Ty) (A : Option Addr) (c : Nat) (w : World) (hA : Ty.At F w A t.ks) (hc : t.ks.length ≤ c) (hm : c ≤ maxLen) (hok : t.ok) (hp : t.parts ≤ 100000) :
    Calls Try.prog 34 #[t.val A c, .func (.func 36) #[] #[]] w fun e w' => ∃ A2 c2, e = .returned (t.val A2 c2) ∧ Made w w' t A2 c2 := by
  have h := through_any (F := F) 36 ent_stays #[] (fun _ => none) (fun _ => True) (fun _ => True) (fun _ _ _ _ => trivial) (fun n w _ _ => (show Calls Try.prog 36 #[.int .i64 n] w _ from stays_any n w).mono (fun e w' h => ⟨h.1, .inl ⟨rfl, h.2⟩⟩)) t A c w hA hc hm hok hp (fun _ _ => trivial) trivial
  rw [thr_none] at h
  exact h
/-- A box with a row of types. -/
def LBox (F : Nat → Prop) (w : World) (pb : Nat) (Al : Option Addr) (cl : Nat) (l : List Ty) : Prop := Blk w pb 22 #[.slice Al l.length cl] ∧ Ty.At F w Al l ∧ l.length ≤ cl ∧ cl ≤ maxLen ∧ ∀ t ∈ l, t.parts ≤ 100000
theorem LBox.bel {F : Nat → Prop} {w w' : World} {pb : Nat} {Al : Option Addr} {cl : Nat} {l : List Ty} (h : LBox F w pb Al cl l) (hb : Below w.heap.size w w') : LBox F w' pb Al cl l := ⟨h.1.below hb h.1.lt, h.2.1.bel hb, h.2.2⟩
set_option maxRecDepth 20000 in
set_option maxHeartbeats 2000000 in
theorem put1_any {F : Nat → Prop} (n : Int) (w : World) {pb : Nat} {Al : Option Addr} {cl : Nat} {l : List Ty} (h : LBox F w pb Al cl l) :
    Calls Try.prog 35 #[.int .i64 n, .pointer (some ⟨pb, 0, none⟩)] w fun e w' => Below w.heap.size w w' ∧ ((plOf l n = none ∧ e = .returned (.tuple #[.agg #[.int .u8 0, .string ⟨#[]⟩, .int .i64 0, .slice none 0 0], .bool false])) ∨ ∃ u A c, plOf l n = some u ∧ e = .returned (.tuple #[u.val A c, .bool true]) ∧ Made w w' u A c) := by
  obtain ⟨w0, hw0⟩ : ∃ w0, w.alloc (.cells #[.int .u8 0, .string ⟨#[]⟩, .int .i64 0, .slice none 0 0] 24) = w0 := ⟨_, rfl⟩
  have hb0 : Below w.heap.size w w0 := by rw [← hw0]; exact (Below.refl _ _).alloc (Nat.le_refl _) _
  have hB0 : Blk w0 w.heap.size 24 #[.int .u8 0, .string ⟨#[]⟩, .int .i64 0, .slice none 0 0] := by rw [← hw0]; exact Blk.new _ _ _
  have r0 := hB0.cell 0
  have r1 := hB0.cell 1
  have r2 := hB0.cell 2
  have r3 := hB0.cell 3
  simp only [List.getElem?_toArray, List.getElem?_cons_zero, List.getElem?_cons_succ] at r0 r1 r2 r3
  have rf := hB0.frozen
  have hL := h.bel hb0
  have l0 := hL.1.cell 0
  simp only [List.getElem?_toArray, List.getElem?_cons_zero, List.getElem?_cons_succ] at l0
  obtain ⟨ll, hll⟩ : ∃ ll, l.length = ll := ⟨_, rfl⟩
  rw [hll] at l0
  have HB0 := Lib.hid (And.intro hB0 (And.intro hb0 (And.intro hL hll)))
  have HW0 := Lib.hid hw0
  clear hB0 hb0 hw0 h hL
  by_cases h0 : n < 0
  · have q0 : decide (n < 0) = true := by simpa using h0
    have hpl : Hid (plOf l n = none) := Lib.hid (by unfold plOf; rw [if_neg (by omega)])
    clear hll
    go_enter Try.func35, Try.ntmps35
    go_upto_region 1 with fail
    rw [HW0.out]
    clear HW0
    go_wp2_with fail
    have HB9 := HB0.out.1.set4 (.int .u8 0) (.string ⟨#[]⟩) (.int .i64 0) (.slice none 0 0)
    refine bodyPost_ret (results_cell_row2 rfl _ _ w.heap.size 24 _ (0, 0) _ rfl HB9 Try.underlying24 rfl (by kernel_rfl)) rfl ?_
    have ho := off4 w0 w.heap.size (.int .u8 0) (.string ⟨#[]⟩) (.int .i64 0) (.slice none 0 0)
    exact ⟨HB0.out.2.1.trans (ho.below HB0.out.2.1.size (fun g e => by omega)), .inl ⟨hpl.out, rfl⟩⟩
  have q0 : decide (n < 0) = false := by simpa using h0
  by_cases h1 : (ll : Int) ≤ n
  · have q1 : decide ((ll : Int) ≤ n) = true := by simpa using h1
    have q2 : decide (n ≥ (ll : Int)) = true := by simpa using h1
    have hpl : Hid (plOf l n = none) := Lib.hid (by unfold plOf; rw [if_neg (by omega)])
    clear hll
    go_enter Try.func35, Try.ntmps35
    go_upto_region 1 with fail
    rw [HW0.out]
    clear HW0
    go_wp2_with fail
    have HB9 := HB0.out.1.set4 (.int .u8 0) (.string ⟨#[]⟩) (.int .i64 0) (.slice none 0 0)
    refine bodyPost_ret (results_cell_row2 rfl _ _ w.heap.size 24 _ (0, 0) _ rfl HB9 Try.underlying24 rfl (by kernel_rfl)) rfl ?_
    have ho := off4 w0 w.heap.size (.int .u8 0) (.string ⟨#[]⟩) (.int .i64 0) (.slice none 0 0)
    exact ⟨HB0.out.2.1.trans (ho.below HB0.out.2.1.size (fun g e => by omega)), .inl ⟨hpl.out, rfl⟩⟩
  have q1 : decide ((ll : Int) ≤ n) = false := by simpa using h1
  have q2 : decide (n ≥ (ll : Int)) = false := by simpa using h1
  obtain ⟨i, rfl⟩ : ∃ i : Nat, n = (i : Int) := ⟨n.toNat, by omega⟩
  have hli : i < ll := by omega
  obtain ⟨u, hu⟩ : ∃ u, l[i]? = some u := ⟨_, List.getElem?_eq_getElem (by rw [hll]; exact hli)⟩
  have hpl : Hid (plOf l (i : Int) = some u) := Lib.hid (by unfold plOf; rw [if_pos (by omega)]; simpa using hu)
  obtain ⟨b, off, A', c', rfl, _, hbl, z0, z1, z2, z3, hok, hlc, hcm, hAt⟩ := HB0.out.2.2.1.2.1.get hu
  have HC := same_any2 u A' c' w0 hAt hlc hcm hok (HB0.out.2.2.1.2.2.2.2 u (List.mem_of_getElem? hu))
  unfold Ty.val at HC
  obtain ⟨ul, hul⟩ : ∃ ul, u.ks.length = ul := ⟨_, rfl⟩
  rw [hul] at HC z3
  replace HC := Lib.hid HC
  have HUL := Lib.hid hul
  clear hll hu hAt hlc hcm hok hul hbl
  go_enter Try.func35, Try.ntmps35
  go_upto_region 1 with fail
  rw [HW0.out]
  clear HW0
  go_wp2_with fail
  refine HC.out.mono ?_
  rintro e w7 ⟨A2, c2, rfl, hM⟩
  have hR7 := HB0.out.1.below hM.bel HB0.out.1.lt
  clear r0 r1 r2 r3 rf z0 z1 z2 z3 l0
  have r0 := hR7.cell 0
  have r1 := hR7.cell 1
  have r2 := hR7.cell 2
  have r3 := hR7.cell 3
  simp only [List.getElem?_toArray, List.getElem?_cons_zero, List.getElem?_cons_succ] at r0 r1 r2 r3
  have rf := hR7.frozen
  have HR := Lib.hid (And.intro hR7 hM)
  clear hR7 hM HC
  go_wp2_with fail
  have HB9 := HR.out.1.set4 (.int .u8 (u.k : Int)) (.string (str u.nm)) (.int .i64 u.n) (.slice A2 ul c2)
  refine bodyPost_ret (results_cell_row2 rfl _ _ w.heap.size 24 _ (0, 0) _ rfl HB9 Try.underlying24 rfl (by kernel_rfl)) rfl ?_
  have ho := off4 w7 w.heap.size (.int .u8 (u.k : Int)) (.string (str u.nm)) (.int .i64 u.n) (.slice A2 ul c2)
  have h1 := HB0.out.1.lt
  exact ⟨(HB0.out.2.1.trans (HR.out.2.bel.mono HB0.out.2.1.size)).trans (ho.below (by have := HB0.out.2.1.size; have := HR.out.2.bel.size; omega) (fun g e => by omega)), .inr ⟨u, A2, c2, hpl.out, by unfold Ty.val; rw [HUL.out]; rfl, (HR.out.2.of_new HB0.out.2.1).off ho (fun g e => by omega) HR.out.2.at_ (by omega) (fun g e => by omega)⟩⟩
end Go.Proofs.Ytndhojnfjlkojaa
