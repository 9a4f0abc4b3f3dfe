/- What Barrier and On hand to settle. -/
import Derived.Test.YtiemfhncadcemaaK
import Derived.Maps.OwnOps
import Derived.Maps.Views
namespace Go.Proofs.Ytiemfhncadcemaa
open Go.RowKit Dsk

theorem Dk.set_ {w : World} {E : Nat → Prop} {g gl gi : Nat} {rv : Value} {D : DS} (h : Dk w E g gl gi rv D) (s : Nat) (v : Value) (b : List UInt8) (hv : Sec w E v b) (hb : b = [] ∨ b.length = 256) :
    Dk (w.setCell ⟨gl, s, none⟩ v) E g gl gi rv { D with S := D.S.set s b } := by
  have hf : ∀ k, k ≠ gl → (w.setCell ⟨gl, s, none⟩ v).heap[k]? = w.heap[k]? := fun k hk => Below.heap_setCell _ _ _ _ hk
  have hE : ∀ k, E k → k ≠ gl := fun k hk e => h.e2 (e ▸ hk)
  have hl : (D.S.set s b).length = D.S.length := List.length_set
  have hsz : w.heap.size ≤ (w.setCell ⟨gl, s, none⟩ v).heap.size := by simp [World.setCell]
  refine ⟨⟨by show 16 ≤ (D.S.set s b).length; rw [hl]; exact h.ok.lo, by show (D.S.set s b).length ≤ _; rw [hl]; exact h.ok.hi, fun c hc => ?_, fun p hp => by show p.1 < (D.S.set s b).length ∧ _; rw [hl]; exact h.ok.pend p hp, h.ok.armed⟩, ?_, h.secs.set_ h.e2 s v b hv, ?_, ?_, h.e1, h.e2, h.e3, h.e4, h.n1, h.n2, h.n3⟩
  · rcases List.mem_or_eq_of_mem_set hc with hc | rfl
    · exact h.ok.sec c hc
    · exact hb
  · show Blk _ g _ #[.slice _ (D.S.set s b).length (D.S.set s b).length, _, .slice _ (D.S.set s b).length (D.S.set s b).length, _, _, _]
    rw [hl]
    exact h.head.far h.n1 v
  · exact h.pend.same hsz (fun k hk _ => hf k (hE k hk)) (fun k hk => hf k (h.e4 k hk).2.2.1)
  · show Lasts _ gi (D.S.set s b).length _
    rw [hl]
    exact h.last.same (hf gi h.n3.symm)

theorem Dk.alloc {w : World} {E : Nat → Prop} {g gl gi : Nat} {rv : Value} {D : DS} (h : Dk w E g gl gi rv D) (o : Obj) : Dk (w.alloc o) E g gl gi rv D := h.same (by simp) (fun k hk _ => Below.heap_alloc _ _ _ hk)

/-- The k-th pending write settled. -/
def setD (D : DS) (s : Nat) (o : Option (List UInt8)) : DS := match o with
  | none => D
  | some b => { D with S := D.S.set s b }

set_option maxHeartbeats 400000 in
theorem bar1 (p1 g gl gi s k : Nat) (A : Option Addr) (l c : Nat) (rv : Value) (b : List UInt8) (D : DS) (E : Nat → Prop) (w : World) (h : Dk w E g gl gi rv D) (hs : s < D.S.length) (hv : Sec w E (.slice A l c) b) (hb : b = [] ∨ b.length = 256) (hp : w.cell? ⟨p1, 0, none⟩ = some (.pointer (some ⟨g, 0, none⟩))) :
    Calls Try.prog 49 #[.int .i64 (k : Int), .agg #[.int .i64 (s : Int), .slice A l c], .pointer (some ⟨p1, 0, none⟩)] w fun e w' => e = .returned (.tuple #[]) ∧ Dk w' E g gl gi rv (setD D s (some b)) ∧ Off (fun k => k = gl) w w' := by
  have hD := h.alloc (.cells #[.int .i64 (s : Int), .slice A l c] 79)
  have hF := (h.set_ s _ b hv hb).alloc (.cells #[.int .i64 (s : Int), .slice A l c] 79)
  have hO : Off (fun k => k = gl) w ((w.setCell ⟨gl, s, none⟩ (.slice A l c)).alloc (.cells #[.int .i64 (s : Int), .slice A l c] 79)) := (Off.setc _ _ _ _).trans (Off.alloc _ _ _)
  have hplt := World.block_lt_of_cell? w _ hp
  have hglt := h.head.lt
  have hllt := h.secs.lt
  have c0 : w.cell? ⟨g, 0, none⟩ = some (.slice (some ⟨gl, 0, none⟩) D.S.length D.S.length) := h.hd.c0
  obtain ⟨v0, hv0, _⟩ := h.secs.at_ (List.getElem?_eq_getElem hs)
  have hf0 := h.secs.free s
  have hn := h.ok.hi
  have HF := Lib.hid hF.drew
  have HO := Lib.hid (hO.trans (Off.drew _ _))
  have hgl : gl < (w.alloc (.cells #[.int .i64 (s : Int), .slice A l c] 79)).heap.size := hD.secs.lt
  have e0 : (0 : Int) ≤ (s : Int) := by omega
  have hv1 := Lib.cell?_alloc_some (.cells #[.int .i64 (s : Int), .slice A l c] 79) hv0
  have hf1 : (w.alloc (.cells #[.int .i64 (s : Int), .slice A l c] 79)).frozen? ⟨gl, s, none⟩ = false := hD.secs.free s
  clear h hD hv hF hO hb
  go_enter Try.func49, Try.ntmps49
  go_wp2
  go_region
  all_goals
    go_end0
    exact ⟨rfl, HF.out, HO.out⟩

/-! ### the map of what is kept -/

/-- Block b is a map of booleans that says S, of at most n entries. -/
def KMap (w : World) (b n : Nat) (S : Int → Bool) : Prop :=
  ∃ D : DataW Unit, w.ownsMap Try.prog 3 (plainElem Try.prog 4) b n D ∧ ∀ i : Int, (Lit.int .i64 i).wf = true → D.atKey (.int .i64 i) (.lit (.bool false)) = .lit (.bool (S i))
theorem KMap.same {w w' : World} {b n : Nat} {S : Int → Bool} (h : KMap w b n S) (hb : w'.heap[b]? = w.heap[b]?) : KMap w' b n S := by
  obtain ⟨D, ⟨es, clock, h1, h2⟩, h3⟩ := h
  exact ⟨D, ⟨es, clock, hb.trans h1, h2⟩, h3⟩
theorem KMap.lt {w : World} {b n : Nat} {S : Int → Bool} (h : KMap w b n S) : b < w.heap.size := by obtain ⟨D, h1, _⟩ := h; exact h1.lt
theorem KMap.made (w : World) : KMap (w.alloc (.map #[] 0)) w.heap.size 0 (fun _ => false) := ⟨_, World.ownsMap_made w _ _ _, fun _ _ => rfl⟩
theorem plainElem_bool_inv {P : Program} {e : TypeId} (he : P.underlying e = some .bool) {v : Value} {z : DataW Unit × List MemPlace} (h : plainElem P e v = some z) : ∃ x, v = .bool x ∧ z = (.lit (.bool x), []) := by
  unfold plainElem at h
  rw [he] at h
  cases v <;> simp at h
  exact ⟨_, rfl, h.symm⟩
theorem KMap.look {w : World} {b n : Nat} {S : Int → Bool} (h : KMap w b n S) (i : Int) (hi : (Lit.int .i64 i).wf = true) : (Instr.lookup 76 (.map (some b)) (.int .i64 i) false).run Try.prog w = .ok (.bool (S i)) w := by
  obtain ⟨D, h1, h2⟩ := h
  have hz : (zeroValue 4).run Try.prog w = .ok (.bool false) w := by kernel_rfl
  obtain ⟨v, ps, hr, hv⟩ := h1.lookup (Maps.int_keyed Try.underlying3) Try.underlying76 hz (plainElem_bool Try.underlying4 false) (Maps.keyOf_int_mk Try.underlying3 hi)
  obtain ⟨x, rfl, hx⟩ := plainElem_bool_inv Try.underlying4 hv
  rw [h2 i hi] at hx
  simp only [Prod.mk.injEq, DataW.lit.injEq, Lit.bool.injEq] at hx
  rw [← hx.1] at hr
  exact hr
theorem KMap.put {w : World} {b n : Nat} {S : Int → Bool} (h : KMap w b n S) (i : Int) (hi : (Lit.int .i64 i).wf = true) (hn : n < 1000000) :
    ∃ w', (Instr.mapUpdate 76 (.map (some b)) (.int .i64 i) (.bool true)).run Try.prog w = .ok () w' ∧ KMap w' b (n + 1) (fun j => j == i || S j) ∧ Off (fun k => k = b) w w' := by
  obtain ⟨D, h1, h2⟩ := h
  obtain ⟨w', hr, h3, h4⟩ := h1.update (Maps.int_keyed Try.underlying3) Try.underlying76 (by unfold maxLen; omega) (Maps.keyOf_int_mk Try.underlying3 hi) (plainElem_bool Try.underlying4 true)
  refine ⟨w', hr, ⟨_, h3, fun j hj => ?_⟩, (Off.of_grown h4).mono fun k _ e => by cases e; rfl⟩
  have hM : Maps.IsMap D := by obtain ⟨es, clock, _, _, _, e⟩ := h1; exact ⟨_, e⟩
  by_cases e : j = i
  · subst e
    rw [Maps.atKey_put_same hM (by simp [WideAt.IsKeyLit])]
    simp
  · rw [Maps.atKey_put_other (by simpa using e), h2 j hj]
    have : (j == i) = false := by simpa using e
    simp only [this, Bool.false_or]

set_option maxHeartbeats 400000 in
theorem on1_torn (p1 p2 p3 g gl gi s k : Nat) (A : Option Addr) (l c : Nat) (rv : Value) (D : DS) (E : Nat → Prop) (w : World) (h : Dk w E g gl gi rv D) (hs : s < D.S.length) (hp1 : w.cell? ⟨p1, 0, none⟩ = some (.int .i64 (k : Int))) (hp2 : w.cell? ⟨p2, 0, none⟩ = some (.pointer (some ⟨g, 0, none⟩))) :
    Calls Try.prog 44 #[.int .i64 (k : Int), .agg #[.int .i64 (s : Int), .slice A l c], .pointer (some ⟨p1, 0, none⟩), .pointer (some ⟨p2, 0, none⟩), .pointer (some ⟨p3, 0, none⟩)] w fun e w' => e = .returned (.tuple #[]) ∧ Dk w' E g gl gi rv (setD D s (some [])) ∧ Off (fun k => k = gl) w w' := by
  have hD := h.alloc (.cells #[.int .i64 (s : Int), .slice A l c] 79)
  have hF := (h.set_ s (.slice none 0 0) [] (Sec.nil _ _) (.inl rfl)).alloc (.cells #[.int .i64 (s : Int), .slice A l c] 79)
  have hO : Off (fun k => k = gl) w ((w.setCell ⟨gl, s, none⟩ (.slice none 0 0)).alloc (.cells #[.int .i64 (s : Int), .slice A l c] 79)) := (Off.setc _ _ _ _).trans (Off.alloc _ _ _)
  have hplt := World.block_lt_of_cell? w _ hp1
  have hplt2 := World.block_lt_of_cell? w _ hp2
  have hglt := h.head.lt
  have hllt := h.secs.lt
  have c0 : w.cell? ⟨g, 0, none⟩ = some (.slice (some ⟨gl, 0, none⟩) D.S.length D.S.length) := h.hd.c0
  obtain ⟨v0, hv0, _⟩ := h.secs.at_ (List.getElem?_eq_getElem hs)
  have hf0 := h.secs.free s
  have hn := h.ok.hi
  have HF := Lib.hid hF.drew
  have HO := Lib.hid (hO.trans (Off.drew _ _))
  have hgl : gl < (w.alloc (.cells #[.int .i64 (s : Int), .slice A l c] 79)).heap.size := hD.secs.lt
  have e0 : (0 : Int) ≤ (s : Int) := by omega
  have hv1 := Lib.cell?_alloc_some (.cells #[.int .i64 (s : Int), .slice A l c] 79) hv0
  have hf1 : (w.alloc (.cells #[.int .i64 (s : Int), .slice A l c] 79)).frozen? ⟨gl, s, none⟩ = false := hD.secs.free s
  clear h hD hF hO
  go_enter Try.func44, Try.ntmps44
  go_wp2
  go_region
  all_goals
    go_end0
    exact ⟨rfl, HF.out, HO.out⟩

set_option maxHeartbeats 400000 in
theorem on1_kept (p1 p2 p3 mb mn g gl gi s k : Nat) (torn : Int) (S : Int → Bool) (A : Option Addr) (l c : Nat) (rv : Value) (b : List UInt8) (D : DS) (E : Nat → Prop) (w : World) (h : Dk w E g gl gi rv D) (hs : s < D.S.length) (hv : Sec w E (.slice A l c) b) (hb : b = [] ∨ b.length = 256)
    (hp1 : w.cell? ⟨p1, 0, none⟩ = some (.int .i64 torn)) (hp2 : w.cell? ⟨p2, 0, none⟩ = some (.pointer (some ⟨g, 0, none⟩))) (hp3 : w.cell? ⟨p3, 0, none⟩ = some (.map (some mb))) (hM : KMap w mb mn S) (hk : k < 1000000) (ht : (k : Int) ≠ torn) (hS : S k = true) :
    Calls Try.prog 44 #[.int .i64 (k : Int), .agg #[.int .i64 (s : Int), .slice A l c], .pointer (some ⟨p1, 0, none⟩), .pointer (some ⟨p2, 0, none⟩), .pointer (some ⟨p3, 0, none⟩)] w fun e w' => e = .returned (.tuple #[]) ∧ Dk w' E g gl gi rv (setD D s (some b)) ∧ Off (fun k => k = gl) w w' := by
  have hD := h.alloc (.cells #[.int .i64 (s : Int), .slice A l c] 79)
  have hF := (h.set_ s (.slice A l c) b hv hb).alloc (.cells #[.int .i64 (s : Int), .slice A l c] 79)
  have hO : Off (fun k => k = gl) w ((w.setCell ⟨gl, s, none⟩ (.slice A l c)).alloc (.cells #[.int .i64 (s : Int), .slice A l c] 79)) := (Off.setc _ _ _ _).trans (Off.alloc _ _ _)
  have hlk := KMap.look (hM.same (Below.heap_alloc w (.cells #[.int .i64 (s : Int), .slice A l c] 79) _ hM.lt)) (k : Int) (WalkArith.wf_i64 (by omega))
  rw [hS] at hlk
  have hplt := World.block_lt_of_cell? w _ hp1
  have hplt2 := World.block_lt_of_cell? w _ hp2
  have hplt3 := World.block_lt_of_cell? w _ hp3
  have hglt := h.head.lt
  have hllt := h.secs.lt
  have c0 : w.cell? ⟨g, 0, none⟩ = some (.slice (some ⟨gl, 0, none⟩) D.S.length D.S.length) := h.hd.c0
  obtain ⟨v0, hv0, _⟩ := h.secs.at_ (List.getElem?_eq_getElem hs)
  have hf0 := h.secs.free s
  have hn := h.ok.hi
  have HF := Lib.hid hF.drew
  have HO := Lib.hid (hO.trans (Off.drew _ _))
  have hgl : gl < (w.alloc (.cells #[.int .i64 (s : Int), .slice A l c] 79)).heap.size := hD.secs.lt
  have e0 : (0 : Int) ≤ (s : Int) := by omega
  have hv1 := Lib.cell?_alloc_some (.cells #[.int .i64 (s : Int), .slice A l c] 79) hv0
  have hf1 : (w.alloc (.cells #[.int .i64 (s : Int), .slice A l c] 79)).frozen? ⟨gl, s, none⟩ = false := hD.secs.free s
  have hd : ((k : Int) == torn) = false := by simpa using ht
  clear h hD hv hF hO hb hM ht hS
  go_enter Try.func44, Try.ntmps44
  go_wp2
  go_region
  all_goals
    go_end0
    exact ⟨rfl, HF.out, HO.out⟩

set_option maxHeartbeats 400000 in
theorem on1_lost (p1 p2 p3 mb mn g gl gi s k : Nat) (torn : Int) (S : Int → Bool) (A : Option Addr) (l c : Nat) (rv : Value) (D : DS) (E : Nat → Prop) (w : World) (h : Dk w E g gl gi rv D)
    (hp1 : w.cell? ⟨p1, 0, none⟩ = some (.int .i64 torn)) (hp2 : w.cell? ⟨p2, 0, none⟩ = some (.pointer (some ⟨g, 0, none⟩))) (hp3 : w.cell? ⟨p3, 0, none⟩ = some (.map (some mb))) (hM : KMap w mb mn S) (hk : k < 1000000) (ht : (k : Int) ≠ torn) (hS : S k = false) :
    Calls Try.prog 44 #[.int .i64 (k : Int), .agg #[.int .i64 (s : Int), .slice A l c], .pointer (some ⟨p1, 0, none⟩), .pointer (some ⟨p2, 0, none⟩), .pointer (some ⟨p3, 0, none⟩)] w fun e w' => e = .returned (.tuple #[]) ∧ Dk w' E g gl gi rv (setD D s none) ∧ Off (fun k => k = gl) w w' := by
  have HF := Lib.hid (h.alloc (.cells #[.int .i64 (s : Int), .slice A l c] 79))
  have HO : Hid (Off (fun k => k = gl) w (w.alloc (.cells #[.int .i64 (s : Int), .slice A l c] 79))) := Lib.hid (Off.alloc _ _ _)
  have hlk := KMap.look (hM.same (Below.heap_alloc w (.cells #[.int .i64 (s : Int), .slice A l c] 79) _ hM.lt)) (k : Int) (WalkArith.wf_i64 (by omega))
  rw [hS] at hlk
  have hplt := World.block_lt_of_cell? w _ hp1
  have hplt2 := World.block_lt_of_cell? w _ hp2
  have hplt3 := World.block_lt_of_cell? w _ hp3
  have hd : ((k : Int) == torn) = false := by simpa using ht
  clear h hM ht hS
  go_enter Try.func44, Try.ntmps44
  go_wp2
  go_end0
  exact ⟨rfl, HF.out, HO.out⟩

end Go.Proofs.Ytiemfhncadcemaa
