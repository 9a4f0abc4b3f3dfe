/- types: works. -/
import Derived.Test.YtndhojnfjlkojaaWm
import Derived.Test.YtndhojnfjlkojaaV
import Derived.Test.YtndhojnfjlkojaaD
import Derived.StillTailTactics
namespace Go.Proofs.Ytndhojnfjlkojaa
open Go.RowKit
set_option linter.unusedVariables false
set_option linter.unusedSimpArgs false
attribute [local go_sem] Oper.semAt_some
open Ty
/-- A book of the call's own. -/
structure BW (w wr : World) (g N : Nat) (l : List (Int × Ty)) (vb vt : Value) : Prop where
  bm : BM wr g N l vb vt
  bel : Below w.heap.size w wr
  mt : ∀ b, Mut g vb vt b → w.heap.size ≤ b
theorem NewB.bw {w wr : World} {g N : Nat} {vb vt : Value} (h : NewB w wr g N vb vt) : BW w wr g N [] vb vt := ⟨h.bm, h.bel, h.mt⟩
theorem BW.step {w w1 w2 : World} {g N N' : Nat} {l l' : List (Int × Ty)} {vb vt vb' vt' : Value} (h : BW w w1 g N l vb vt) (hb : BM w2 g N' l' vb' vt') (hg : Go w1 g vb vt w2 vb' vt') : BW w w2 g N' l' vb' vt' :=
  ⟨hb, h.bel.trans (hg.off.below h.bel.size h.mt), fun b hm => by
    rcases hg.new b hm with h1 | h1
    · exact h.mt b h1
    · have := h.bel.size; omega⟩
theorem BW.bel' {w w1 w2 : World} {g N : Nat} {l : List (Int × Ty)} {vb vt : Value} (h : BW w w1 g N l vb vt) (hb : Below w1.heap.size w1 w2) : BW w w2 g N l vb vt := h.step (h.bm.bel hb) (Go.bel _ _ _ hb)
theorem BW.old {w w1 : World} {g N : Nat} {l : List (Int × Ty)} {vb vt : Value} (h : BW w w1 g N l vb vt) {t : Ty} {A : Option Addr} {c : Nat} (ht : Tb w.heap.size w t A c) : Tm (Mut g vb vt) w1 t A c := ⟨(ht.at_.belB h.bel).mono fun b hb hm => by have := h.mt b hm; omega, ht.len, ht.cap, ht.ok⟩
/-- A box with a type without kids. -/
def LB (M : Nat → Prop) (w : World) (p k : Nat) (s : ByteArray) (n : Int) : Prop := Blk w p 24 #[.int .u8 (k : Int), .string s, .int .i64 n, .slice none 0 0] ∧ ¬ M p
theorem LB.go {w w1 : World} {g : Nat} {vb vt vb1 vt1 : Value} {p k : Nat} {s : ByteArray} {n : Int} (h : LB (Mut g vb vt) w p k s n) (hg : Go w g vb vt w1 vb1 vt1) : LB (Mut g vb1 vt1) w1 p k s n := ⟨hg.blk h.1 h.2, hg.apart h.2 h.1.lt⟩
theorem LB.bel {M : Nat → Prop} {w w1 : World} {p k : Nat} {s : ByteArray} {n : Int} (h : LB M w p k s n) (hb : Below w.heap.size w w1) : LB M w1 p k s n := ⟨h.1.below hb h.1.lt, h.2⟩
theorem LB.cells {M : Nat → Prop} {w : World} {p k : Nat} {s : ByteArray} {n : Int} (h : LB M w p k s n) : w.cell? ⟨p, 0, none⟩ = some (.int .u8 (k : Int)) ∧ w.cell? ⟨p, 1, none⟩ = some (.string s) ∧ w.cell? ⟨p, 2, none⟩ = some (.int .i64 n) ∧ w.cell? ⟨p, 3, none⟩ = some (.slice none 0 0) := ⟨h.1.cell 0, h.1.cell 1, h.1.cell 2, h.1.cell 3⟩
theorem Tm.leaf (M : Nat → Prop) (w : World) {k : Nat} (hk : k < 256) (nm : List UInt8) {n : Int} (hn : -9223372036854775808 ≤ n ∧ n < 9223372036854775808) : Tm M w (.node k nm n []) none 0 := ⟨.nil _, Nat.le_refl _, Nat.zero_le _, ⟨hk, hn⟩⟩
/-- The boxes of works. -/
structure WB (M : Nat → Prop) (w : World) (px py pz pi ps : Nat) : Prop where
  x : LB M w px 1 ⟨#[]⟩ 0
  y : LB M w py 1 ⟨#[]⟩ 1
  z : LB M w pz 1 ⟨#[]⟩ 2
  i : LB M w pi 2 (str [105, 110, 116]) 0
  s : LB M w ps 2 (str [115, 116, 114, 105, 110, 103]) 0
theorem WB.go {w w1 : World} {g : Nat} {vb vt vb1 vt1 : Value} {px py pz pi ps : Nat} (h : WB (Mut g vb vt) w px py pz pi ps) (hg : Go w g vb vt w1 vb1 vt1) : WB (Mut g vb1 vt1) w1 px py pz pi ps := ⟨h.x.go hg, h.y.go hg, h.z.go hg, h.i.go hg, h.s.go hg⟩
theorem WB.bel {M : Nat → Prop} {w w1 : World} {px py pz pi ps : Nat} (h : WB M w px py pz pi ps) (hb : Below w.heap.size w w1) : WB M w1 px py pz pi ps := ⟨h.x.bel hb, h.y.bel hb, h.z.bel hb, h.i.bel hb, h.s.bel hb⟩
theorem LB.new_ {w w1 : World} {M : Nat → Prop} {k : Nat} {s : ByteArray} {n : Int} (hw : w.alloc (.cells #[.int .u8 (k : Int), .string s, .int .i64 n, .slice none 0 0] 24) = w1) (hM : ∀ b, M b → b < w.heap.size) : LB M w1 w.heap.size k s n := ⟨by rw [← hw]; exact Blk.new _ _ _, fun h => by have := hM _ h; omega⟩
theorem tm_fun {W0 W : World} {M : Nat → Prop} (hM : ∀ b, M b → b < W0.heap.size) {x : Ty} {A : Option Addr} {c : Nat} (h : Te.in_ (fun b => False ∨ (W0.heap.size ≤ b ∧ b < W.heap.size)) W ⟨x, A, c⟩) : Tm M W x A c :=
  ⟨h.1.mono fun b hb hm => by have := hM b hm; rcases hb with hb | hb; exact hb; omega, h.2.2.1, h.2.2.2, h.2.1⟩
theorem wfun (x y : Ty) (hx : x.ks = []) (hy : y.ks = []) (kx : x.ok) (ky : y.ok) (W : World) : Calls Try.prog 31 #[x.val none 0, y.val none 0] W fun e w' => ∃ A c, e = .returned ((tfun x y).val A c) ∧ Te.in_ (fun b => False ∨ (W.heap.size ≤ b ∧ b < w'.heap.size)) w' ⟨tfun x y, A, c⟩ ∧ Below W.heap.size W w' :=
  rfun_any (F := fun _ => False) x y none none 0 0 W ⟨by rw [show (⟨x, none, 0⟩ : Te).t.ks = [] from hx]; exact .nil _, kx, by rw [show (⟨x, none, 0⟩ : Te).t.ks = [] from hx]; exact Nat.le_refl _, Nat.zero_le _⟩ ⟨by rw [show (⟨y, none, 0⟩ : Te).t.ks = [] from hy]; exact .nil _, ky, by rw [show (⟨y, none, 0⟩ : Te).t.ks = [] from hy]; exact Nat.le_refl _, Nat.zero_le _⟩
/-- What holds in the end. -/
def WS (S : Int → Ty) : Prop := S 0 = tstr ∧ S 1 = tfun tstr tint
theorem wU1 {W0 W : World} {g : Nat} {vb vt : Value} {A : Option Addr} {c : Nat} (hB : BM W g 3 [] vb vt) (hM : ∀ b, Mut g vb vt b → b < W0.heap.size) (h : Te.in_ (fun b => False ∨ (W0.heap.size ≤ b ∧ b < W.heap.size)) W ⟨tfun (tvar 0) tint, A, c⟩) :
    Calls Try.prog 20 #[.pointer (some ⟨g, 0, none⟩), (tfun (tvar 0) tint).val A c, (tvar 1).val none 0] W fun en w' => en = .returned (.int .i64 0) ∧ ∃ l1 S1 vt1, Slv 3 (look l1) S1 ∧ (∀ x, thw x = (S1 x).sub thw) ∧ tfun (S1 0) tint = S1 1 ∧ BM w' g 3 l1 vb vt1 ∧ Go W g vb vt w' vb vt1 :=
  (Unify_any (Slv.start 3) (tfun (tvar 0) tint) (tvar 1) A none c 0 (tm_fun hM h) (Tm.leaf _ _ (by decide) _ (by decide)) hB).mono fun en w' ⟨e, l1, S1, vt1, h1, h2, h3, h4, h5⟩ => by
    obtain ⟨rfl, k2, k3⟩ := works1 h2
    exact ⟨h1, l1, S1, vt1, h3, k2, k3, h4, h5⟩
theorem wU2 {W0 W : World} {g : Nat} {vb vt : Value} {A : Option Addr} {c : Nat} {l1 : List (Int × Ty)} {S1 : Int → Ty} (hS : Slv 3 (look l1) S1) (hth : ∀ x, thw x = (S1 x).sub thw) (hf : tfun (S1 0) tint = S1 1) (hB : BM W g 3 l1 vb vt) (hM : ∀ b, Mut g vb vt b → b < W0.heap.size) (h : Te.in_ (fun b => False ∨ (W0.heap.size ≤ b ∧ b < W.heap.size)) W ⟨tfun tstr (tvar 2), A, c⟩) :
    Calls Try.prog 20 #[.pointer (some ⟨g, 0, none⟩), (tvar 1).val none 0, (tfun tstr (tvar 2)).val A c] W fun en w' => en = .returned (.int .i64 0) ∧ ∃ l1 S1 vt1, Slv 3 (look l1) S1 ∧ WS S1 ∧ BM w' g 3 l1 vb vt1 ∧ Go W g vb vt w' vb vt1 :=
  (Unify_any hS (tvar 1) (tfun tstr (tvar 2)) none A 0 c (Tm.leaf _ _ (by decide) _ (by decide)) (tm_fun hM h) hB).mono fun en w' ⟨e, l1, S1, vt1, h1, h2, h3, h4, h5⟩ => by
    obtain ⟨rfl, k2, k3⟩ := works2 hS hth hf h2
    exact ⟨h1, l1, S1, vt1, h3, ⟨k2, k3⟩, h4, h5⟩
theorem wU3 {W : World} {g : Nat} {vb vt : Value} {l1 : List (Int × Ty)} {S1 : Int → Ty} (hS : Slv 3 (look l1) S1) (hW : WS S1) (hB : BM W g 3 l1 vb vt) :
    Calls Try.prog 20 #[.pointer (some ⟨g, 0, none⟩), tint.val none 0, tstr.val none 0] W fun en w' => en = .returned (.int .i64 13) ∧ ∃ vt1, BM w' g 3 l1 vb vt1 ∧ Go W g vb vt w' vb vt1 :=
  (Unify_any hS tint tstr none none 0 0 (Tm.leaf _ _ (by decide) _ (by decide)) (Tm.leaf _ _ (by decide) _ (by decide)) hB).mono fun en w' ⟨e, l2, S2, vt1, h1, h2, h3, h4, h5⟩ => by
    obtain ⟨rfl, rfl, rfl⟩ := works3 h2
    exact ⟨h1, vt1, h4, h5⟩
theorem wU4 {W : World} {g : Nat} {vb vt : Value} {A : Option Addr} {c : Nat} {l1 : List (Int × Ty)} {S1 : Int → Ty} (hS : Slv 3 (look l1) S1) (hW : WS S1) (hB : BM W g 3 l1 vb vt) (hT : Tm (Mut g vb vt) W (tlist (tvar 0)) A c) :
    Calls Try.prog 20 #[.pointer (some ⟨g, 0, none⟩), (tvar 0).val none 0, (tlist (tvar 0)).val A c] W fun en w' => en = .returned (.int .i64 13) ∧ ∃ vt1, BM w' g 3 l1 vb vt1 ∧ Go W g vb vt w' vb vt1 :=
  (Unify_any hS (tvar 0) (tlist (tvar 0)) none A 0 c (Tm.leaf _ _ (by decide) _ (by decide)) hT hB).mono fun en w' ⟨e, l2, S2, vt1, h1, h2, h3, h4, h5⟩ => by
    obtain ⟨rfl, rfl, rfl⟩ := works4 hW.1 h2
    exact ⟨h1, vt1, h4, h5⟩
theorem wA {W : World} {g : Nat} {vb vt : Value} {l1 : List (Int × Ty)} {S1 : Int → Ty} (hS : Slv 3 (look l1) S1) (hW : WS S1) (hB : BM W g 3 l1 vb vt) :
    Calls Try.prog 22 #[.pointer (some ⟨g, 0, none⟩), (tvar 1).val none 0] W fun en w' => ∃ A2 c2, en = .returned ((tfun tstr tint).val A2 c2) ∧ Made W w' (tfun tstr tint) A2 c2 := by
  obtain ⟨Ab, cb, rfl, _, _⟩ := hB.shape
  have h := Apply_any hS (tvar 1) none 0 W (by decide) (Tm.leaf (fun _ => False) W (by decide) _ (by decide)).tb hB.bk
  rw [works5 hW.2] at h
  exact h
theorem wS {F G : Nat → Prop} {W : World} {A B : Option Addr} {c d : Nat} (hA : Ty.At F W A (tfun tstr tint).ks) (hc : (tfun tstr tint).ks.length ≤ c) (hm : c ≤ maxLen) (hB : Ty.At G W B (tfun tstr tint).ks) :
    Calls Try.prog 14 #[(tfun tstr tint).val A c, (tfun tstr tint).val B d] W fun e w' => e = .returned (.bool true) ∧ Below W.heap.size W w' := by
  have h := rsame_any (tfun tstr tint) (tfun tstr tint) A c B d W hA hc hm hB
  rw [same_refl] at h
  exact h
set_option maxRecDepth 20000 in
set_option maxHeartbeats 8000000 in
theorem works_any (w : World) : Calls Try.prog 9 #[] w fun e w' => e = .returned (.bool true) ∧ Below w.heap.size w w' := by
  have HN := Lib.hid (new_any w)
  have HCo := Lib.hid rcon_any
  have HVi : (⟨#[105, 110, 116]⟩ : ByteArray) = str [105, 110, 116] := rfl
  have HVs : (⟨#[115, 116, 114, 105, 110, 103]⟩ : ByteArray) = str [115, 116, 114, 105, 110, 103] := rfl
  go_enter Try.func9, Try.ntmps9
  go_upto_region 2 with (go_at_call 29; refine HN.out.mono ?_; rintro e w1 ⟨g, rfl, hb1⟩; have HB1 := Lib.hid hb1; have HF1 := Lib.hid (fresh_any hb1.bm (by omega)); clear hb1)
  clear HN
  go_upto_region 3 with (go_at_call 27; refine HF1.out.mono ?_; rintro e w2 ⟨rfl, vb2, hb2, hg2⟩; have HB2 := Lib.hid (HB1.out.bw.step hb2 hg2); clear hb2 hg2)
  clear HF1
  obtain ⟨w3, hw3⟩ : ∃ w3, w2.alloc (.cells #[.int .u8 1, .string ⟨#[]⟩, .int .i64 0, .slice none 0 0] 24) = w3 := ⟨_, rfl⟩
  have hb3 : Below w2.heap.size w2 w3 := by rw [← hw3]; exact (Below.refl _ _).alloc (Nat.le_refl _) _
  have hx3 : LB (Mut g vb2 (.slice none 0 0)) w3 w2.heap.size 1 ⟨#[]⟩ 0 := LB.new_ hw3 fun b h => HB2.out.bm.lt h
  have HB3 := Lib.hid (And.intro (HB2.out.bel' hb3) hx3)
  (try rw [hw3])
  clear hw3 hb3 hx3
  have HF2 : Hid (Calls Try.prog 27 #[.pointer (some ⟨g, 0, none⟩)] w3 fun e w' => e = .returned (.agg #[.int .u8 1, .string ⟨#[]⟩, .int .i64 1, .slice none 0 0]) ∧ ∃ vb', BM w' g 2 [] vb' (.slice none 0 0) ∧ Go w3 g vb2 (.slice none 0 0) w' vb' (.slice none 0 0)) := Lib.hid (fresh_any HB3.out.1.bm (by decide))
  go_upto_region 4 with (go_at_call 27; refine HF2.out.mono ?_; rintro e w4 ⟨rfl, vb4, hb4, hg4⟩; have HB4 := Lib.hid (And.intro (HB3.out.1.step hb4 hg4) (HB3.out.2.go hg4)); clear hb4 hg4)
  clear HF2
  obtain ⟨w5, hw5⟩ : ∃ w5, w4.alloc (.cells #[.int .u8 1, .string ⟨#[]⟩, .int .i64 1, .slice none 0 0] 24) = w5 := ⟨_, rfl⟩
  have hb5 : Below w4.heap.size w4 w5 := by rw [← hw5]; exact (Below.refl _ _).alloc (Nat.le_refl _) _
  have hy5 : LB (Mut g vb4 (.slice none 0 0)) w5 w4.heap.size 1 ⟨#[]⟩ 1 := LB.new_ hw5 fun b h => HB4.out.1.bm.lt h
  have HB5 := Lib.hid (And.intro (HB4.out.1.bel' hb5) (And.intro (HB4.out.2.bel hb5) hy5))
  (try rw [hw5])
  clear hw5 hb5 hy5
  have HF3 : Hid (Calls Try.prog 27 #[.pointer (some ⟨g, 0, none⟩)] w5 fun e w' => e = .returned (.agg #[.int .u8 1, .string ⟨#[]⟩, .int .i64 2, .slice none 0 0]) ∧ ∃ vb', BM w' g 3 [] vb' (.slice none 0 0) ∧ Go w5 g vb4 (.slice none 0 0) w' vb' (.slice none 0 0)) := Lib.hid (fresh_any HB5.out.1.bm (by decide))
  go_upto_region 5 with (go_at_call 27; refine HF3.out.mono ?_; rintro e w6 ⟨rfl, vb6, hb6, hg6⟩; have HB6 := Lib.hid (And.intro (HB5.out.1.step hb6 hg6) (And.intro (HB5.out.2.1.go hg6) (HB5.out.2.2.go hg6))); clear hb6 hg6)
  clear HF3
  obtain ⟨w7, hw7⟩ : ∃ w7, w6.alloc (.cells #[.int .u8 1, .string ⟨#[]⟩, .int .i64 2, .slice none 0 0] 24) = w7 := ⟨_, rfl⟩
  have hb7 : Below w6.heap.size w6 w7 := by rw [← hw7]; exact (Below.refl _ _).alloc (Nat.le_refl _) _
  have hz7 : LB (Mut g vb6 (.slice none 0 0)) w7 w6.heap.size 1 ⟨#[]⟩ 2 := LB.new_ hw7 fun b h => HB6.out.1.bm.lt h
  have HB7 := Lib.hid (And.intro (HB6.out.1.bel' hb7) (And.intro (HB6.out.2.1.bel hb7) (And.intro (HB6.out.2.2.bel hb7) hz7)))
  (try rw [hw7])
  clear hw7 hb7 hz7
  go_upto_region 6 with (go_at_call 30; refine (HCo.out _ _ _ _ _).mono ?_; rintro e w8 ⟨rfl, hb8⟩; have HB8 := Lib.hid (And.intro (HB7.out.1.bel' hb8) (And.intro (HB7.out.2.1.bel hb8) (And.intro (HB7.out.2.2.1.bel hb8) (HB7.out.2.2.2.bel hb8)))); clear hb8)
  (try rw [HVi])
  obtain ⟨w9, hw9⟩ : ∃ w9, w8.alloc (.cells #[.int .u8 2, .string (str [105, 110, 116]), .int .i64 0, .slice none 0 0] 24) = w9 := ⟨_, rfl⟩
  have hb9 : Below w8.heap.size w8 w9 := by rw [← hw9]; exact (Below.refl _ _).alloc (Nat.le_refl _) _
  have hi9 : LB (Mut g vb6 (.slice none 0 0)) w9 w8.heap.size 2 (str [105, 110, 116]) 0 := LB.new_ hw9 fun b h => HB8.out.1.bm.lt h
  have HB9 := Lib.hid (And.intro (HB8.out.1.bel' hb9) (And.intro (HB8.out.2.1.bel hb9) (And.intro (HB8.out.2.2.1.bel hb9) (And.intro (HB8.out.2.2.2.bel hb9) hi9))))
  (try rw [hw9])
  clear hw9 hb9 hi9
  go_upto_region 7 with (go_at_call 30; refine (HCo.out _ _ _ _ _).mono ?_; rintro e wa ⟨rfl, hba⟩; have HBa := Lib.hid (And.intro (HB9.out.1.bel' hba) (And.intro (HB9.out.2.1.bel hba) (And.intro (HB9.out.2.2.1.bel hba) (And.intro (HB9.out.2.2.2.1.bel hba) (HB9.out.2.2.2.2.bel hba))))); clear hba)
  (try rw [HVs])
  obtain ⟨wb, hwb⟩ : ∃ wb, wa.alloc (.cells #[.int .u8 2, .string (str [115, 116, 114, 105, 110, 103]), .int .i64 0, .slice none 0 0] 24) = wb := ⟨_, rfl⟩
  have hbb : Below wa.heap.size wa wb := by rw [← hwb]; exact (Below.refl _ _).alloc (Nat.le_refl _) _
  have hsb : LB (Mut g vb6 (.slice none 0 0)) wb wa.heap.size 2 (str [115, 116, 114, 105, 110, 103]) 0 := LB.new_ hwb fun b h => HBa.out.1.bm.lt h
  obtain ⟨px, hpx⟩ : ∃ px, w2.heap.size = px := ⟨_, rfl⟩
  obtain ⟨py, hpy⟩ : ∃ py, w4.heap.size = py := ⟨_, rfl⟩
  obtain ⟨pz, hpz⟩ : ∃ pz, w6.heap.size = pz := ⟨_, rfl⟩
  obtain ⟨pi, hpi⟩ : ∃ pi, w8.heap.size = pi := ⟨_, rfl⟩
  obtain ⟨ps, hps⟩ : ∃ ps, wa.heap.size = ps := ⟨_, rfl⟩
  have HW : Hid (BW w wb g 3 [] vb6 (.slice none 0 0) ∧ WB (Mut g vb6 (.slice none 0 0)) wb px py pz pi ps) := Lib.hid ⟨HBa.out.1.bel' hbb, by rw [← hpx, ← hpy, ← hpz, ← hpi, ← hps]; exact ⟨HBa.out.2.1.bel hbb, HBa.out.2.2.1.bel hbb, HBa.out.2.2.2.1.bel hbb, HBa.out.2.2.2.2.bel hbb, hsb⟩⟩
  (try rw [hwb])
  (try rw [hpx, hpy, hpz, hpi, hps])
  clear hwb hbb hsb hpx hpy hpz hpi hps HB1 HB2 HB3 HB4 HB5 HB6 HB7 HB8 HB9 HBa
  have x0b : World.cell? wb ⟨px, 0, none⟩ = some (.int .u8 1) := HW.out.2.x.cells.1
  have x1b : World.cell? wb ⟨px, 1, none⟩ = some (.string ⟨#[]⟩) := HW.out.2.x.cells.2.1
  have x2b : World.cell? wb ⟨px, 2, none⟩ = some (.int .i64 0) := HW.out.2.x.cells.2.2.1
  have x3b : World.cell? wb ⟨px, 3, none⟩ = some (.slice none 0 0) := HW.out.2.x.cells.2.2.2
  have i0b : World.cell? wb ⟨pi, 0, none⟩ = some (.int .u8 2) := HW.out.2.i.cells.1
  have i1b : World.cell? wb ⟨pi, 1, none⟩ = some (.string (str [105, 110, 116])) := HW.out.2.i.cells.2.1
  have i2b : World.cell? wb ⟨pi, 2, none⟩ = some (.int .i64 0) := HW.out.2.i.cells.2.2.1
  have i3b : World.cell? wb ⟨pi, 3, none⟩ = some (.slice none 0 0) := HW.out.2.i.cells.2.2.2
  have y0b : World.cell? wb ⟨py, 0, none⟩ = some (.int .u8 1) := HW.out.2.y.cells.1
  have y1b : World.cell? wb ⟨py, 1, none⟩ = some (.string ⟨#[]⟩) := HW.out.2.y.cells.2.1
  have y2b : World.cell? wb ⟨py, 2, none⟩ = some (.int .i64 1) := HW.out.2.y.cells.2.2.1
  have y3b : World.cell? wb ⟨py, 3, none⟩ = some (.slice none 0 0) := HW.out.2.y.cells.2.2.2
  have HFu1 : Hid (∀ W, Calls Try.prog 31 #[.agg #[.int .u8 1, .string ⟨#[]⟩, .int .i64 0, .slice none 0 0], .agg #[.int .u8 2, .string (str [105, 110, 116]), .int .i64 0, .slice none 0 0]] W fun e w' => ∃ A c, e = .returned (.agg #[.int .u8 3, .string ⟨#[]⟩, .int .i64 0, .slice A 2 c]) ∧ Te.in_ (fun b => False ∨ (W.heap.size ≤ b ∧ b < w'.heap.size)) w' ⟨tfun (tvar 0) tint, A, c⟩ ∧ Below W.heap.size W w') := Lib.hid fun W => wfun (tvar 0) tint rfl rfl ⟨by decide, by decide, by decide⟩ ⟨by decide, by decide, by decide⟩ W
  have HU1 : Hid (∀ (W0 W : World) (A : Option Addr) (c : Nat), BM W g 3 [] vb6 (.slice none 0 0) → (∀ b, Mut g vb6 (.slice none 0 0) b → b < W0.heap.size) → Te.in_ (fun b => False ∨ (W0.heap.size ≤ b ∧ b < W.heap.size)) W ⟨tfun (tvar 0) tint, A, c⟩ → Calls Try.prog 20 #[.pointer (some ⟨g, 0, none⟩), .agg #[.int .u8 3, .string ⟨#[]⟩, .int .i64 0, .slice A 2 c], .agg #[.int .u8 1, .string ⟨#[]⟩, .int .i64 1, .slice none 0 0]] W fun en w' => en = .returned (.int .i64 0) ∧ ∃ l1 S1 vt1, Slv 3 (look l1) S1 ∧ (∀ x, thw x = (S1 x).sub thw) ∧ tfun (S1 0) tint = S1 1 ∧ BM w' g 3 l1 vb6 vt1 ∧ Go W g vb6 (.slice none 0 0) w' vb6 vt1) := Lib.hid fun W0 W A c h1 h2 h3 => wU1 h1 h2 h3
  refine wp_region_held_drew (S := (fun W => W.cell? ⟨px, 0, none⟩ = some (.int .u8 1) ∧ W.cell? ⟨px, 1, none⟩ = some (.string ⟨#[]⟩) ∧ W.cell? ⟨px, 2, none⟩ = some (.int .i64 0) ∧ W.cell? ⟨px, 3, none⟩ = some (.slice none 0 0) ∧ W.cell? ⟨pi, 0, none⟩ = some (.int .u8 2) ∧ W.cell? ⟨pi, 1, none⟩ = some (.string (str [105, 110, 116])) ∧ W.cell? ⟨pi, 2, none⟩ = some (.int .i64 0) ∧ W.cell? ⟨pi, 3, none⟩ = some (.slice none 0 0) ∧ W.cell? ⟨py, 0, none⟩ = some (.int .u8 1) ∧ W.cell? ⟨py, 1, none⟩ = some (.string ⟨#[]⟩) ∧ W.cell? ⟨py, 2, none⟩ = some (.int .i64 1) ∧ W.cell? ⟨py, 3, none⟩ = some (.slice none 0 0))) (by kernel_rfl) ⟨x0b, x1b, x2b, x3b, i0b, i1b, i2b, i3b, y0b, y1b, y2b, y3b⟩ (fun hHeld => ?_)
  refine takeY 0 (some 20) rfl rfl (by kernel_rfl) (by kernel_rfl) (by kernel_rfl) (fun _ _ _ h => h) (by rfl) (v := _) (by (intro _ hSw; (try dsimp only at hSw); go_simp; try with_reducible rfl)) hHeld ?_
  simp only [Act.put, List.setIfInBounds_toArray, List.set_cons_zero, List.set_cons_succ]
  refine takeY 1 (some 21) rfl rfl (by kernel_rfl) (by kernel_rfl) (by kernel_rfl) (fun _ _ _ h => h) (by rfl) (v := _) (by (intro _ hSw; (try dsimp only at hSw); go_simp; try with_reducible rfl)) hHeld ?_
  simp only [Act.put, List.setIfInBounds_toArray, List.set_cons_zero, List.set_cons_succ]
  refine takeY 2 (some 22) rfl rfl (by kernel_rfl) (by kernel_rfl) (by kernel_rfl) (fun _ _ _ h => h) (by rfl) (v := _) (by (intro _ hSw; (try dsimp only at hSw); go_simp; try with_reducible rfl)) hHeld ?_
  simp only [Act.put, List.setIfInBounds_toArray, List.set_cons_zero, List.set_cons_succ]
  refine takeY 4 (some 24) rfl rfl (by kernel_rfl) (by kernel_rfl) (by kernel_rfl) (fun _ _ _ h => h) (by rfl) (v := _) (by (intro _ hSw; (try dsimp only at hSw); go_simp; try with_reducible rfl)) hHeld ?_
  simp only [Act.put, List.setIfInBounds_toArray, List.set_cons_zero, List.set_cons_succ]
  refine wpAnyH_ready (rs := [3]) (by kernel_rfl) (by simp) ?_
  refine AllReadyH.cons rfl (fun K hK => ?_) AllReadyH.nil
  clear hHeld
  go_simp
  go_wp2_with (go_at_call 31; refine Calls.mono (HFu1.out _) ?_; rintro e wc ⟨A, c, rfl, hte, hbc⟩; have hbc' : Below wb.heap.size wb wc := (Below.refl wb.heap.size wb).drew.trans hbc; have HBc := Lib.hid (And.intro (HW.out.1.bel' hbc') (And.intro (HW.out.2.bel hbc') hte)); clear hbc hbc' hte x0b x1b x2b x3b i0b i1b i2b i3b y0b y1b y2b y3b; have x0c : World.cell? wc ⟨px, 0, none⟩ = some (.int .u8 1) := HBc.out.2.1.x.cells.1; have x1c : World.cell? wc ⟨px, 1, none⟩ = some (.string ⟨#[]⟩) := HBc.out.2.1.x.cells.2.1; have x2c : World.cell? wc ⟨px, 2, none⟩ = some (.int .i64 0) := HBc.out.2.1.x.cells.2.2.1; have x3c : World.cell? wc ⟨px, 3, none⟩ = some (.slice none 0 0) := HBc.out.2.1.x.cells.2.2.2; have i0c : World.cell? wc ⟨pi, 0, none⟩ = some (.int .u8 2) := HBc.out.2.1.i.cells.1; have i1c : World.cell? wc ⟨pi, 1, none⟩ = some (.string (str [105, 110, 116])) := HBc.out.2.1.i.cells.2.1; have i2c : World.cell? wc ⟨pi, 2, none⟩ = some (.int .i64 0) := HBc.out.2.1.i.cells.2.2.1; have i3c : World.cell? wc ⟨pi, 3, none⟩ = some (.slice none 0 0) := HBc.out.2.1.i.cells.2.2.2; have y0c : World.cell? wc ⟨py, 0, none⟩ = some (.int .u8 1) := HBc.out.2.1.y.cells.1; have y1c : World.cell? wc ⟨py, 1, none⟩ = some (.string ⟨#[]⟩) := HBc.out.2.1.y.cells.2.1; have y2c : World.cell? wc ⟨py, 2, none⟩ = some (.int .i64 1) := HBc.out.2.1.y.cells.2.2.1; have y3c : World.cell? wc ⟨py, 3, none⟩ = some (.slice none 0 0) := HBc.out.2.1.y.cells.2.2.2)
  refine hK.out _ _ ⟨x0c, x1c, x2c, x3c, i0c, i1c, i2c, i3c, y0c, y1c, y2c, y3c⟩ (fun hHeld => ?_)
  clear hK K
  refine wpAnyH_ready (rs := [5]) (by kernel_rfl) (by simp) ?_
  refine AllReadyH.cons rfl (fun K hK => ?_) AllReadyH.nil
  clear hHeld
  go_simp
  go_wp2_with (go_at_call 20; refine Calls.mono (HU1.out wb.drew _ _ _ HBc.out.1.bm (fun b h => HW.out.1.bm.lt h) HBc.out.2.2) ?_; rintro e wd ⟨rfl, l1, S1, vt1, hS1, hth, hf, hb, hg⟩; have HW1 := Lib.hid (And.intro (HBc.out.1.step hb hg) (And.intro (HBc.out.2.1.go hg) (And.intro hS1 (And.intro hth hf)))); clear hS1 hth hf hb hg x0c x1c x2c x3c i0c i1c i2c i3c y0c y1c y2c y3c; have x0d : World.cell? wd ⟨px, 0, none⟩ = some (.int .u8 1) := HW1.out.2.1.x.cells.1; have x1d : World.cell? wd ⟨px, 1, none⟩ = some (.string ⟨#[]⟩) := HW1.out.2.1.x.cells.2.1; have x2d : World.cell? wd ⟨px, 2, none⟩ = some (.int .i64 0) := HW1.out.2.1.x.cells.2.2.1; have x3d : World.cell? wd ⟨px, 3, none⟩ = some (.slice none 0 0) := HW1.out.2.1.x.cells.2.2.2; have i0d : World.cell? wd ⟨pi, 0, none⟩ = some (.int .u8 2) := HW1.out.2.1.i.cells.1; have i1d : World.cell? wd ⟨pi, 1, none⟩ = some (.string (str [105, 110, 116])) := HW1.out.2.1.i.cells.2.1; have i2d : World.cell? wd ⟨pi, 2, none⟩ = some (.int .i64 0) := HW1.out.2.1.i.cells.2.2.1; have i3d : World.cell? wd ⟨pi, 3, none⟩ = some (.slice none 0 0) := HW1.out.2.1.i.cells.2.2.2; have y0d : World.cell? wd ⟨py, 0, none⟩ = some (.int .u8 1) := HW1.out.2.1.y.cells.1; have y1d : World.cell? wd ⟨py, 1, none⟩ = some (.string ⟨#[]⟩) := HW1.out.2.1.y.cells.2.1; have y2d : World.cell? wd ⟨py, 2, none⟩ = some (.int .i64 1) := HW1.out.2.1.y.cells.2.2.1; have y3d : World.cell? wd ⟨py, 3, none⟩ = some (.slice none 0 0) := HW1.out.2.1.y.cells.2.2.2)
  refine hK.out _ _ ⟨x0d, x1d, x2d, x3d, i0d, i1d, i2d, i3d, y0d, y1d, y2d, y3d⟩ (fun hHeld => ?_)
  clear hK K
  refine takeY 6 (some 7) rfl rfl (by kernel_rfl) (by kernel_rfl) (by kernel_rfl) (fun _ _ _ h => h) (by rfl) (v := _) (by (intro _ hSw; (try dsimp only at hSw); go_simp; try with_reducible rfl)) hHeld ?_
  simp only [Act.put, List.setIfInBounds_toArray, List.set_cons_zero, List.set_cons_succ]
  refine wpAnyH_done (by kernel_rfl) ?_ _
  clear hHeld HFu1 HU1 HBc HW x0d x1d x2d x3d i0d i1d i2d i3d y0d y1d y2d y3d
  go_upto_region 8 with fail
  have y0d : World.cell? wd ⟨py, 0, none⟩ = some (.int .u8 1) := HW1.out.2.1.y.cells.1
  have y1d : World.cell? wd ⟨py, 1, none⟩ = some (.string ⟨#[]⟩) := HW1.out.2.1.y.cells.2.1
  have y2d : World.cell? wd ⟨py, 2, none⟩ = some (.int .i64 1) := HW1.out.2.1.y.cells.2.2.1
  have y3d : World.cell? wd ⟨py, 3, none⟩ = some (.slice none 0 0) := HW1.out.2.1.y.cells.2.2.2
  have s0d : World.cell? wd ⟨ps, 0, none⟩ = some (.int .u8 2) := HW1.out.2.1.s.cells.1
  have s1d : World.cell? wd ⟨ps, 1, none⟩ = some (.string (str [115, 116, 114, 105, 110, 103])) := HW1.out.2.1.s.cells.2.1
  have s2d : World.cell? wd ⟨ps, 2, none⟩ = some (.int .i64 0) := HW1.out.2.1.s.cells.2.2.1
  have s3d : World.cell? wd ⟨ps, 3, none⟩ = some (.slice none 0 0) := HW1.out.2.1.s.cells.2.2.2
  have z0d : World.cell? wd ⟨pz, 0, none⟩ = some (.int .u8 1) := HW1.out.2.1.z.cells.1
  have z1d : World.cell? wd ⟨pz, 1, none⟩ = some (.string ⟨#[]⟩) := HW1.out.2.1.z.cells.2.1
  have z2d : World.cell? wd ⟨pz, 2, none⟩ = some (.int .i64 2) := HW1.out.2.1.z.cells.2.2.1
  have z3d : World.cell? wd ⟨pz, 3, none⟩ = some (.slice none 0 0) := HW1.out.2.1.z.cells.2.2.2
  have HFu2 : Hid (∀ W, Calls Try.prog 31 #[.agg #[.int .u8 2, .string (str [115, 116, 114, 105, 110, 103]), .int .i64 0, .slice none 0 0], .agg #[.int .u8 1, .string ⟨#[]⟩, .int .i64 2, .slice none 0 0]] W fun e w' => ∃ A c, e = .returned (.agg #[.int .u8 3, .string ⟨#[]⟩, .int .i64 0, .slice A 2 c]) ∧ Te.in_ (fun b => False ∨ (W.heap.size ≤ b ∧ b < w'.heap.size)) w' ⟨tfun tstr (tvar 2), A, c⟩ ∧ Below W.heap.size W w') := Lib.hid fun W => wfun tstr (tvar 2) rfl rfl ⟨by decide, by decide, by decide⟩ ⟨by decide, by decide, by decide⟩ W
  have HU2 : Hid (∀ (W0 W : World) (A : Option Addr) (c : Nat), BM W g 3 l1 vb6 vt1 → (∀ b, Mut g vb6 vt1 b → b < W0.heap.size) → Te.in_ (fun b => False ∨ (W0.heap.size ≤ b ∧ b < W.heap.size)) W ⟨tfun tstr (tvar 2), A, c⟩ → Calls Try.prog 20 #[.pointer (some ⟨g, 0, none⟩), .agg #[.int .u8 1, .string ⟨#[]⟩, .int .i64 1, .slice none 0 0], .agg #[.int .u8 3, .string ⟨#[]⟩, .int .i64 0, .slice A 2 c]] W fun en w' => en = .returned (.int .i64 0) ∧ ∃ l2 S2 vt2, Slv 3 (look l2) S2 ∧ WS S2 ∧ BM w' g 3 l2 vb6 vt2 ∧ Go W g vb6 vt1 w' vb6 vt2) := Lib.hid fun W0 W A c h1 h2 h3 => wU2 HW1.out.2.2.1 HW1.out.2.2.2.1 HW1.out.2.2.2.2 h1 h2 h3
  refine wp_region_held_drew (S := (fun W => W.cell? ⟨py, 0, none⟩ = some (.int .u8 1) ∧ W.cell? ⟨py, 1, none⟩ = some (.string ⟨#[]⟩) ∧ W.cell? ⟨py, 2, none⟩ = some (.int .i64 1) ∧ W.cell? ⟨py, 3, none⟩ = some (.slice none 0 0) ∧ W.cell? ⟨ps, 0, none⟩ = some (.int .u8 2) ∧ W.cell? ⟨ps, 1, none⟩ = some (.string (str [115, 116, 114, 105, 110, 103])) ∧ W.cell? ⟨ps, 2, none⟩ = some (.int .i64 0) ∧ W.cell? ⟨ps, 3, none⟩ = some (.slice none 0 0) ∧ W.cell? ⟨pz, 0, none⟩ = some (.int .u8 1) ∧ W.cell? ⟨pz, 1, none⟩ = some (.string ⟨#[]⟩) ∧ W.cell? ⟨pz, 2, none⟩ = some (.int .i64 2) ∧ W.cell? ⟨pz, 3, none⟩ = some (.slice none 0 0))) (by kernel_rfl) ⟨y0d, y1d, y2d, y3d, s0d, s1d, s2d, s3d, z0d, z1d, z2d, z3d⟩ (fun hHeld => ?_)
  refine takeY 0 (some 26) rfl rfl (by kernel_rfl) (by kernel_rfl) (by kernel_rfl) (fun _ _ _ h => h) (by rfl) (v := _) (by (intro _ hSw; (try dsimp only at hSw); go_simp; try with_reducible rfl)) hHeld ?_
  simp only [Act.put, List.setIfInBounds_toArray, List.set_cons_zero, List.set_cons_succ]
  refine takeY 1 (some 27) rfl rfl (by kernel_rfl) (by kernel_rfl) (by kernel_rfl) (fun _ _ _ h => h) (by rfl) (v := _) (by (intro _ hSw; (try dsimp only at hSw); go_simp; try with_reducible rfl)) hHeld ?_
  simp only [Act.put, List.setIfInBounds_toArray, List.set_cons_zero, List.set_cons_succ]
  refine takeY 2 (some 28) rfl rfl (by kernel_rfl) (by kernel_rfl) (by kernel_rfl) (fun _ _ _ h => h) (by rfl) (v := _) (by (intro _ hSw; (try dsimp only at hSw); go_simp; try with_reducible rfl)) hHeld ?_
  simp only [Act.put, List.setIfInBounds_toArray, List.set_cons_zero, List.set_cons_succ]
  refine takeY 3 (some 29) rfl rfl (by kernel_rfl) (by kernel_rfl) (by kernel_rfl) (fun _ _ _ h => h) (by rfl) (v := _) (by (intro _ hSw; (try dsimp only at hSw); go_simp; try with_reducible rfl)) hHeld ?_
  simp only [Act.put, List.setIfInBounds_toArray, List.set_cons_zero, List.set_cons_succ]
  refine wpAnyH_ready (rs := [4]) (by kernel_rfl) (by simp) ?_
  refine AllReadyH.cons rfl (fun K hK => ?_) AllReadyH.nil
  clear hHeld
  go_simp
  go_wp2_with (go_at_call 31; refine Calls.mono (HFu2.out _) ?_; rintro e we ⟨A, c, rfl, hte, hbc⟩; have hbc' : Below wd.heap.size wd we := (Below.refl wd.heap.size wd).drew.trans hbc; have HBe := Lib.hid (And.intro (HW1.out.1.bel' hbc') (And.intro (HW1.out.2.1.bel hbc') hte)); clear hbc hbc' hte y0d y1d y2d y3d s0d s1d s2d s3d z0d z1d z2d z3d; have y0e : World.cell? we ⟨py, 0, none⟩ = some (.int .u8 1) := HBe.out.2.1.y.cells.1; have y1e : World.cell? we ⟨py, 1, none⟩ = some (.string ⟨#[]⟩) := HBe.out.2.1.y.cells.2.1; have y2e : World.cell? we ⟨py, 2, none⟩ = some (.int .i64 1) := HBe.out.2.1.y.cells.2.2.1; have y3e : World.cell? we ⟨py, 3, none⟩ = some (.slice none 0 0) := HBe.out.2.1.y.cells.2.2.2; have s0e : World.cell? we ⟨ps, 0, none⟩ = some (.int .u8 2) := HBe.out.2.1.s.cells.1; have s1e : World.cell? we ⟨ps, 1, none⟩ = some (.string (str [115, 116, 114, 105, 110, 103])) := HBe.out.2.1.s.cells.2.1; have s2e : World.cell? we ⟨ps, 2, none⟩ = some (.int .i64 0) := HBe.out.2.1.s.cells.2.2.1; have s3e : World.cell? we ⟨ps, 3, none⟩ = some (.slice none 0 0) := HBe.out.2.1.s.cells.2.2.2; have z0e : World.cell? we ⟨pz, 0, none⟩ = some (.int .u8 1) := HBe.out.2.1.z.cells.1; have z1e : World.cell? we ⟨pz, 1, none⟩ = some (.string ⟨#[]⟩) := HBe.out.2.1.z.cells.2.1; have z2e : World.cell? we ⟨pz, 2, none⟩ = some (.int .i64 2) := HBe.out.2.1.z.cells.2.2.1; have z3e : World.cell? we ⟨pz, 3, none⟩ = some (.slice none 0 0) := HBe.out.2.1.z.cells.2.2.2)
  refine hK.out _ _ ⟨y0e, y1e, y2e, y3e, s0e, s1e, s2e, s3e, z0e, z1e, z2e, z3e⟩ (fun hHeld => ?_)
  clear hK K
  refine wpAnyH_ready (rs := [5]) (by kernel_rfl) (by simp) ?_
  refine AllReadyH.cons rfl (fun K hK => ?_) AllReadyH.nil
  clear hHeld
  go_simp
  go_wp2_with (go_at_call 20; refine Calls.mono (HU2.out wd.drew _ _ _ HBe.out.1.bm (fun b h => HW1.out.1.bm.lt h) HBe.out.2.2) ?_; rintro e wf ⟨rfl, l2, S2, vt2, hS2, hws, hb, hg⟩; have HW2 := Lib.hid (And.intro (HBe.out.1.step hb hg) (And.intro (HBe.out.2.1.go hg) (And.intro hS2 hws))); clear hS2 hws hb hg HBe HW1 HFu2 HU2 y0e y1e y2e y3e s0e s1e s2e s3e z0e z1e z2e z3e; have i0f : World.cell? wf ⟨pi, 0, none⟩ = some (.int .u8 2) := HW2.out.2.1.i.cells.1; have i1f : World.cell? wf ⟨pi, 1, none⟩ = some (.string (str [105, 110, 116])) := HW2.out.2.1.i.cells.2.1; have i2f : World.cell? wf ⟨pi, 2, none⟩ = some (.int .i64 0) := HW2.out.2.1.i.cells.2.2.1; have i3f : World.cell? wf ⟨pi, 3, none⟩ = some (.slice none 0 0) := HW2.out.2.1.i.cells.2.2.2; have s0f : World.cell? wf ⟨ps, 0, none⟩ = some (.int .u8 2) := HW2.out.2.1.s.cells.1; have s1f : World.cell? wf ⟨ps, 1, none⟩ = some (.string (str [115, 116, 114, 105, 110, 103])) := HW2.out.2.1.s.cells.2.1; have s2f : World.cell? wf ⟨ps, 2, none⟩ = some (.int .i64 0) := HW2.out.2.1.s.cells.2.2.1; have s3f : World.cell? wf ⟨ps, 3, none⟩ = some (.slice none 0 0) := HW2.out.2.1.s.cells.2.2.2; have x0f : World.cell? wf ⟨px, 0, none⟩ = some (.int .u8 1) := HW2.out.2.1.x.cells.1; have x1f : World.cell? wf ⟨px, 1, none⟩ = some (.string ⟨#[]⟩) := HW2.out.2.1.x.cells.2.1; have x2f : World.cell? wf ⟨px, 2, none⟩ = some (.int .i64 0) := HW2.out.2.1.x.cells.2.2.1; have x3f : World.cell? wf ⟨px, 3, none⟩ = some (.slice none 0 0) := HW2.out.2.1.x.cells.2.2.2; have HU3 : Hid (Calls Try.prog 20 #[.pointer (some ⟨g, 0, none⟩), .agg #[.int .u8 2, .string (str [105, 110, 116]), .int .i64 0, .slice none 0 0], .agg #[.int .u8 2, .string (str [115, 116, 114, 105, 110, 103]), .int .i64 0, .slice none 0 0]] wf fun en w' => en = .returned (.int .i64 13) ∧ ∃ vt1, BM w' g 3 l2 vb6 vt1 ∧ Go wf g vb6 vt2 w' vb6 vt1) := Lib.hid (wU3 HW2.out.2.2.1 HW2.out.2.2.2 HW2.out.1.bm); have y0f : World.cell? wf ⟨py, 0, none⟩ = some (.int .u8 1) := HW2.out.2.1.y.cells.1; have y1f : World.cell? wf ⟨py, 1, none⟩ = some (.string ⟨#[]⟩) := HW2.out.2.1.y.cells.2.1; have y2f : World.cell? wf ⟨py, 2, none⟩ = some (.int .i64 1) := HW2.out.2.1.y.cells.2.2.1; have y3f : World.cell? wf ⟨py, 3, none⟩ = some (.slice none 0 0) := HW2.out.2.1.y.cells.2.2.2; have z0f : World.cell? wf ⟨pz, 0, none⟩ = some (.int .u8 1) := HW2.out.2.1.z.cells.1; have z1f : World.cell? wf ⟨pz, 1, none⟩ = some (.string ⟨#[]⟩) := HW2.out.2.1.z.cells.2.1; have z2f : World.cell? wf ⟨pz, 2, none⟩ = some (.int .i64 2) := HW2.out.2.1.z.cells.2.2.1; have z3f : World.cell? wf ⟨pz, 3, none⟩ = some (.slice none 0 0) := HW2.out.2.1.z.cells.2.2.2)
  refine hK.out _ _ ⟨y0f, y1f, y2f, y3f, s0f, s1f, s2f, s3f, z0f, z1f, z2f, z3f⟩ (fun hHeld => ?_)
  clear hK K
  refine takeY 6 (some 8) rfl rfl (by kernel_rfl) (by kernel_rfl) (by kernel_rfl) (fun _ _ _ h => h) (by rfl) (v := _) (by (intro _ hSw; (try dsimp only at hSw); go_simp; try with_reducible rfl)) hHeld ?_
  simp only [Act.put, List.setIfInBounds_toArray, List.set_cons_zero, List.set_cons_succ]
  refine wpAnyH_done (by kernel_rfl) ?_ _
  clear hHeld y0f y1f y2f y3f z0f z1f z2f z3f
  go_upto_region 9 with fail
  go_upto_region 10 with (go_at_call 20; refine HU3.out.mono ?_; rintro e wg ⟨rfl, vt3, hb, hg⟩; have HW3 := Lib.hid (And.intro (HW2.out.1.step hb hg) (And.intro (HW2.out.2.1.go hg) HW2.out.2.2)); clear hb hg HW2 HU3 i0f i1f i2f i3f s0f s1f s2f s3f x0f x1f x2f x3f; have x0g : World.cell? wg ⟨px, 0, none⟩ = some (.int .u8 1) := HW3.out.2.1.x.cells.1; have x1g : World.cell? wg ⟨px, 1, none⟩ = some (.string ⟨#[]⟩) := HW3.out.2.1.x.cells.2.1; have x2g : World.cell? wg ⟨px, 2, none⟩ = some (.int .i64 0) := HW3.out.2.1.x.cells.2.2.1; have x3g : World.cell? wg ⟨px, 3, none⟩ = some (.slice none 0 0) := HW3.out.2.1.x.cells.2.2.2)
  have HVl : (⟨#[108, 105, 115, 116]⟩ : ByteArray) = str [108, 105, 115, 116] := rfl
  have HU4 : Hid (∀ (W : World) (A : Option Addr), BM W g 3 l2 vb6 vt3 → Tm (Mut g vb6 vt3) W (tlist (tvar 0)) A 1 → Calls Try.prog 20 #[.pointer (some ⟨g, 0, none⟩), .agg #[.int .u8 1, .string ⟨#[]⟩, .int .i64 0, .slice none 0 0], .agg #[.int .u8 2, .string (str [108, 105, 115, 116]), .int .i64 0, .slice A 1 1]] W fun en w' => en = .returned (.int .i64 13) ∧ ∃ vt1, BM w' g 3 l2 vb6 vt1 ∧ Go W g vb6 vt3 w' vb6 vt1) := Lib.hid fun W A h1 h2 => wU4 HW3.out.2.2.1 HW3.out.2.2.2 h1 h2
  refine wp_region_held_drew (S := (fun W => W.cell? ⟨px, 0, none⟩ = some (.int .u8 1) ∧ W.cell? ⟨px, 1, none⟩ = some (.string ⟨#[]⟩) ∧ W.cell? ⟨px, 2, none⟩ = some (.int .i64 0) ∧ W.cell? ⟨px, 3, none⟩ = some (.slice none 0 0))) (by kernel_rfl) ⟨x0g, x1g, x2g, x3g⟩ (fun hHeld => ?_)
  refine takeY 0 (some 36) rfl rfl (by kernel_rfl) (by kernel_rfl) (by kernel_rfl) (fun _ _ _ h => h) (by rfl) (v := _) (by (intro _ hSw; (try dsimp only at hSw); go_simp; try with_reducible rfl)) hHeld ?_
  simp only [Act.put, List.setIfInBounds_toArray, List.set_cons_zero, List.set_cons_succ]
  refine takeY 1 (some 37) rfl rfl (by kernel_rfl) (by kernel_rfl) (by kernel_rfl) (fun _ _ _ h => h) (by rfl) (v := _) (by (intro _ hSw; (try dsimp only at hSw); go_simp; try with_reducible rfl)) hHeld ?_
  simp only [Act.put, List.setIfInBounds_toArray, List.set_cons_zero, List.set_cons_succ]
  refine takeY 2 (some 38) rfl rfl (by kernel_rfl) (by kernel_rfl) (by kernel_rfl) (fun _ _ _ h => h) (by rfl) (v := _) (by (intro _ hSw; (try dsimp only at hSw); go_simp; try with_reducible rfl)) hHeld ?_
  simp only [Act.put, List.setIfInBounds_toArray, List.set_cons_zero, List.set_cons_succ]
  obtain ⟨wh, hwh⟩ : ∃ wh, wg.drew.alloc (.cells #[.int .u8 1, .string ⟨#[]⟩, .int .i64 0, .slice none 0 0] 24) = wh := ⟨_, rfl⟩
  have hbh : Below wg.heap.size wg wh := by rw [← hwh]; exact (Below.refl wg.heap.size wg).drew.alloc (Nat.le_refl _) _
  have hkh : Blk wh wg.heap.size 24 #[.int .u8 1, .string ⟨#[]⟩, .int .i64 0, .slice none 0 0] := by rw [← hwh]; exact Blk.new wg.drew _ _
  have hth : Tm (Mut g vb6 vt3) wh (tlist (tvar 0)) (some ⟨wg.heap.size, 0, none⟩) 1 := ⟨one_at (x := tvar 0) (A := none) (c := 0) hkh (fun h => by have := HW3.out.1.bm.lt h; omega) ⟨.nil _, ⟨by decide, by decide, by decide⟩, Nat.le_refl _, Nat.zero_le _⟩, Nat.le_refl _, by unfold maxLen; omega, ⟨by show (2 : Nat) < 256; omega, by show (-9223372036854775808 : Int) ≤ 0; omega, by show (0 : Int) < 9223372036854775808; omega⟩⟩
  have HBh := Lib.hid (And.intro (HW3.out.1.bel' hbh) (And.intro (HW3.out.2.1.bel hbh) hth))
  clear hkh hth hbh x0g x1g x2g x3g
  have x0h : World.cell? wh ⟨px, 0, none⟩ = some (.int .u8 1) := HBh.out.2.1.x.cells.1
  have x1h : World.cell? wh ⟨px, 1, none⟩ = some (.string ⟨#[]⟩) := HBh.out.2.1.x.cells.2.1
  have x2h : World.cell? wh ⟨px, 2, none⟩ = some (.int .i64 0) := HBh.out.2.1.x.cells.2.2.1
  have x3h : World.cell? wh ⟨px, 3, none⟩ = some (.slice none 0 0) := HBh.out.2.1.x.cells.2.2.2
  refine wpAnyH_ready (rs := [3]) (by kernel_rfl) (by simp) ?_
  refine AllReadyH.cons rfl (fun K hK => ?_) AllReadyH.nil
  clear hHeld
  go_simp
  (try rw [hwh])
  refine hK.out _ _ ⟨x0h, x1h, x2h, x3h⟩ (fun hHeld => ?_)
  clear hK K hwh
  refine wpAnyH_ready (rs := [4]) (by kernel_rfl) (by simp) ?_
  refine AllReadyH.cons rfl (fun K hK => ?_) AllReadyH.nil
  clear hHeld
  go_simp
  go_wp2_with (go_at_call 30; refine Calls.mono (HCo.out _ _ _ _ _) ?_; rintro e wi ⟨rfl, hbi⟩; have HBi := Lib.hid (And.intro (HBh.out.1.bel' hbi) (And.intro (HBh.out.2.1.bel hbi) (HBh.out.2.2.bel hbi))); clear hbi x0h x1h x2h x3h; (try rw [HVl]); have x0i : World.cell? wi ⟨px, 0, none⟩ = some (.int .u8 1) := HBi.out.2.1.x.cells.1; have x1i : World.cell? wi ⟨px, 1, none⟩ = some (.string ⟨#[]⟩) := HBi.out.2.1.x.cells.2.1; have x2i : World.cell? wi ⟨px, 2, none⟩ = some (.int .i64 0) := HBi.out.2.1.x.cells.2.2.1; have x3i : World.cell? wi ⟨px, 3, none⟩ = some (.slice none 0 0) := HBi.out.2.1.x.cells.2.2.2)
  refine hK.out _ _ ⟨x0i, x1i, x2i, x3i⟩ (fun hHeld => ?_)
  clear hK K
  refine wpAnyH_ready (rs := [5]) (by kernel_rfl) (by simp) ?_
  refine AllReadyH.cons rfl (fun K hK => ?_) AllReadyH.nil
  clear hHeld
  go_simp
  go_wp2_with (go_at_call 20; refine Calls.mono (HU4.out _ _ HBi.out.1.bm HBi.out.2.2) ?_; rintro e wj ⟨rfl, vt4, hb, hg⟩; have HW4 := Lib.hid (And.intro (HBi.out.1.step hb hg) (And.intro (HBi.out.2.1.go hg) HW3.out.2.2)); clear hb hg x0i x1i x2i x3i; have x0j : World.cell? wj ⟨px, 0, none⟩ = some (.int .u8 1) := HW4.out.2.1.x.cells.1; have x1j : World.cell? wj ⟨px, 1, none⟩ = some (.string ⟨#[]⟩) := HW4.out.2.1.x.cells.2.1; have x2j : World.cell? wj ⟨px, 2, none⟩ = some (.int .i64 0) := HW4.out.2.1.x.cells.2.2.1; have x3j : World.cell? wj ⟨px, 3, none⟩ = some (.slice none 0 0) := HW4.out.2.1.x.cells.2.2.2; have y0j : World.cell? wj ⟨py, 0, none⟩ = some (.int .u8 1) := HW4.out.2.1.y.cells.1; have y1j : World.cell? wj ⟨py, 1, none⟩ = some (.string ⟨#[]⟩) := HW4.out.2.1.y.cells.2.1; have y2j : World.cell? wj ⟨py, 2, none⟩ = some (.int .i64 1) := HW4.out.2.1.y.cells.2.2.1; have y3j : World.cell? wj ⟨py, 3, none⟩ = some (.slice none 0 0) := HW4.out.2.1.y.cells.2.2.2; have i0j : World.cell? wj ⟨pi, 0, none⟩ = some (.int .u8 2) := HW4.out.2.1.i.cells.1; have i1j : World.cell? wj ⟨pi, 1, none⟩ = some (.string (str [105, 110, 116])) := HW4.out.2.1.i.cells.2.1; have i2j : World.cell? wj ⟨pi, 2, none⟩ = some (.int .i64 0) := HW4.out.2.1.i.cells.2.2.1; have i3j : World.cell? wj ⟨pi, 3, none⟩ = some (.slice none 0 0) := HW4.out.2.1.i.cells.2.2.2; have s0j : World.cell? wj ⟨ps, 0, none⟩ = some (.int .u8 2) := HW4.out.2.1.s.cells.1; have s1j : World.cell? wj ⟨ps, 1, none⟩ = some (.string (str [115, 116, 114, 105, 110, 103])) := HW4.out.2.1.s.cells.2.1; have s2j : World.cell? wj ⟨ps, 2, none⟩ = some (.int .i64 0) := HW4.out.2.1.s.cells.2.2.1; have s3j : World.cell? wj ⟨ps, 3, none⟩ = some (.slice none 0 0) := HW4.out.2.1.s.cells.2.2.2)
  refine hK.out _ _ ⟨x0j, x1j, x2j, x3j⟩ (fun hHeld => ?_)
  clear hK K
  refine takeY 6 (some 10) rfl rfl (by kernel_rfl) (by kernel_rfl) (by kernel_rfl) (fun _ _ _ h => h) (by rfl) (v := _) (by (intro _ hSw; (try dsimp only at hSw); go_simp; try with_reducible rfl)) hHeld ?_
  simp only [Act.put, List.setIfInBounds_toArray, List.set_cons_zero, List.set_cons_succ]
  refine wpAnyH_done (by kernel_rfl) ?_ _
  clear hHeld HU4 HBi HBh HW3 x0j x1j x2j x3j
  go_upto_region 11 with fail
  have HFu3 : Hid (∀ W, Calls Try.prog 31 #[.agg #[.int .u8 2, .string (str [115, 116, 114, 105, 110, 103]), .int .i64 0, .slice none 0 0], .agg #[.int .u8 2, .string (str [105, 110, 116]), .int .i64 0, .slice none 0 0]] W fun e w' => ∃ A c, e = .returned (.agg #[.int .u8 3, .string ⟨#[]⟩, .int .i64 0, .slice A 2 c]) ∧ Te.in_ (fun b => False ∨ (W.heap.size ≤ b ∧ b < w'.heap.size)) w' ⟨tfun tstr tint, A, c⟩ ∧ Below W.heap.size W w') := Lib.hid fun W => wfun tstr tint rfl rfl ⟨by decide, by decide, by decide⟩ ⟨by decide, by decide, by decide⟩ W
  have HAp : Hid (∀ W, BM W g 3 l2 vb6 vt4 → Calls Try.prog 22 #[.pointer (some ⟨g, 0, none⟩), .agg #[.int .u8 1, .string ⟨#[]⟩, .int .i64 1, .slice none 0 0]] W fun en w' => ∃ A c, en = .returned (.agg #[.int .u8 3, .string ⟨#[]⟩, .int .i64 0, .slice A 2 c]) ∧ Made W w' (tfun tstr tint) A c) := Lib.hid fun W h => wA HW4.out.2.2.1 HW4.out.2.2.2 h
  refine wp_region_held_drew (S := (fun W => W.cell? ⟨py, 0, none⟩ = some (.int .u8 1) ∧ W.cell? ⟨py, 1, none⟩ = some (.string ⟨#[]⟩) ∧ W.cell? ⟨py, 2, none⟩ = some (.int .i64 1) ∧ W.cell? ⟨py, 3, none⟩ = some (.slice none 0 0) ∧ W.cell? ⟨pi, 0, none⟩ = some (.int .u8 2) ∧ W.cell? ⟨pi, 1, none⟩ = some (.string (str [105, 110, 116])) ∧ W.cell? ⟨pi, 2, none⟩ = some (.int .i64 0) ∧ W.cell? ⟨pi, 3, none⟩ = some (.slice none 0 0) ∧ W.cell? ⟨ps, 0, none⟩ = some (.int .u8 2) ∧ W.cell? ⟨ps, 1, none⟩ = some (.string (str [115, 116, 114, 105, 110, 103])) ∧ W.cell? ⟨ps, 2, none⟩ = some (.int .i64 0) ∧ W.cell? ⟨ps, 3, none⟩ = some (.slice none 0 0))) (by kernel_rfl) ⟨y0j, y1j, y2j, y3j, i0j, i1j, i2j, i3j, s0j, s1j, s2j, s3j⟩ (fun hHeld => ?_)
  refine takeY 0 (some 42) rfl rfl (by kernel_rfl) (by kernel_rfl) (by kernel_rfl) (fun _ _ _ h => h) (by rfl) (v := _) (by (intro _ hSw; (try dsimp only at hSw); go_simp; try with_reducible rfl)) hHeld ?_
  simp only [Act.put, List.setIfInBounds_toArray, List.set_cons_zero, List.set_cons_succ]
  refine takeY 1 (some 43) rfl rfl (by kernel_rfl) (by kernel_rfl) (by kernel_rfl) (fun _ _ _ h => h) (by rfl) (v := _) (by (intro _ hSw; (try dsimp only at hSw); go_simp; try with_reducible rfl)) hHeld ?_
  simp only [Act.put, List.setIfInBounds_toArray, List.set_cons_zero, List.set_cons_succ]
  refine takeY 2 (some 44) rfl rfl (by kernel_rfl) (by kernel_rfl) (by kernel_rfl) (fun _ _ _ h => h) (by rfl) (v := _) (by (intro _ hSw; (try dsimp only at hSw); go_simp; try with_reducible rfl)) hHeld ?_
  simp only [Act.put, List.setIfInBounds_toArray, List.set_cons_zero, List.set_cons_succ]
  refine takeY 3 (some 45) rfl rfl (by kernel_rfl) (by kernel_rfl) (by kernel_rfl) (fun _ _ _ h => h) (by rfl) (v := _) (by (intro _ hSw; (try dsimp only at hSw); go_simp; try with_reducible rfl)) hHeld ?_
  simp only [Act.put, List.setIfInBounds_toArray, List.set_cons_zero, List.set_cons_succ]
  refine takeY 4 (some 46) rfl rfl (by kernel_rfl) (by kernel_rfl) (by kernel_rfl) (fun _ _ _ h => h) (by rfl) (v := _) (by (intro _ hSw; (try dsimp only at hSw); go_simp; try with_reducible rfl)) hHeld ?_
  simp only [Act.put, List.setIfInBounds_toArray, List.set_cons_zero, List.set_cons_succ]
  refine takeY 5 (some 47) rfl rfl (by kernel_rfl) (by kernel_rfl) (by kernel_rfl) (fun _ _ _ h => h) (by rfl) (v := _) (by (intro _ hSw; (try dsimp only at hSw); go_simp; try with_reducible rfl)) hHeld ?_
  simp only [Act.put, List.setIfInBounds_toArray, List.set_cons_zero, List.set_cons_succ]
  refine takeY 6 (some 48) rfl rfl (by kernel_rfl) (by kernel_rfl) (by kernel_rfl) (fun _ _ _ h => h) (by rfl) (v := _) (by (intro _ hSw; (try dsimp only at hSw); go_simp; try with_reducible rfl)) hHeld ?_
  simp only [Act.put, List.setIfInBounds_toArray, List.set_cons_zero, List.set_cons_succ]
  refine takeY 7 (some 49) rfl rfl (by kernel_rfl) (by kernel_rfl) (by kernel_rfl) (fun _ _ _ h => h) (by rfl) (v := _) (by (intro _ hSw; (try dsimp only at hSw); go_simp; try with_reducible rfl)) hHeld ?_
  simp only [Act.put, List.setIfInBounds_toArray, List.set_cons_zero, List.set_cons_succ]
  refine takeY 8 (some 50) rfl rfl (by kernel_rfl) (by kernel_rfl) (by kernel_rfl) (fun _ _ _ h => h) (by rfl) (v := _) (by (intro _ hSw; (try dsimp only at hSw); go_simp; try with_reducible rfl)) hHeld ?_
  simp only [Act.put, List.setIfInBounds_toArray, List.set_cons_zero, List.set_cons_succ]
  refine takeY 9 (some 51) rfl rfl (by kernel_rfl) (by kernel_rfl) (by kernel_rfl) (fun _ _ _ h => h) (by rfl) (v := _) (by (intro _ hSw; (try dsimp only at hSw); go_simp; try with_reducible rfl)) hHeld ?_
  simp only [Act.put, List.setIfInBounds_toArray, List.set_cons_zero, List.set_cons_succ]
  refine takeY 10 (some 52) rfl rfl (by kernel_rfl) (by kernel_rfl) (by kernel_rfl) (fun _ _ _ h => h) (by rfl) (v := _) (by (intro _ hSw; (try dsimp only at hSw); go_simp; try with_reducible rfl)) hHeld ?_
  simp only [Act.put, List.setIfInBounds_toArray, List.set_cons_zero, List.set_cons_succ]
  refine takeY 11 (some 53) rfl rfl (by kernel_rfl) (by kernel_rfl) (by kernel_rfl) (fun _ _ _ h => h) (by rfl) (v := _) (by (intro _ hSw; (try dsimp only at hSw); go_simp; try with_reducible rfl)) hHeld ?_
  simp only [Act.put, List.setIfInBounds_toArray, List.set_cons_zero, List.set_cons_succ]
  refine takeY 12 (some 54) rfl rfl (by kernel_rfl) (by kernel_rfl) (by kernel_rfl) (fun _ _ _ h => h) (by rfl) (v := _) (by (intro _ hSw; (try dsimp only at hSw); go_simp; try with_reducible rfl)) hHeld ?_
  simp only [Act.put, List.setIfInBounds_toArray, List.set_cons_zero, List.set_cons_succ]
  refine takeY 13 (some 55) rfl rfl (by kernel_rfl) (by kernel_rfl) (by kernel_rfl) (fun _ _ _ h => h) (by rfl) (v := _) (by (intro _ hSw; (try dsimp only at hSw); go_simp; try with_reducible rfl)) hHeld ?_
  simp only [Act.put, List.setIfInBounds_toArray, List.set_cons_zero, List.set_cons_succ]
  refine takeY 14 (some 56) rfl rfl (by kernel_rfl) (by kernel_rfl) (by kernel_rfl) (fun _ _ _ h => h) (by rfl) (v := _) (by (intro _ hSw; (try dsimp only at hSw); go_simp; try with_reducible rfl)) hHeld ?_
  simp only [Act.put, List.setIfInBounds_toArray, List.set_cons_zero, List.set_cons_succ]
  refine takeY 15 (some 57) rfl rfl (by kernel_rfl) (by kernel_rfl) (by kernel_rfl) (fun _ _ _ h => h) (by rfl) (v := _) (by (intro _ hSw; (try dsimp only at hSw); go_simp; try with_reducible rfl)) hHeld ?_
  simp only [Act.put, List.setIfInBounds_toArray, List.set_cons_zero, List.set_cons_succ]
  refine takeY 16 (some 58) rfl rfl (by kernel_rfl) (by kernel_rfl) (by kernel_rfl) (fun _ _ _ h => h) (by rfl) (v := _) (by (intro _ hSw; (try dsimp only at hSw); go_simp; try with_reducible rfl)) hHeld ?_
  simp only [Act.put, List.setIfInBounds_toArray, List.set_cons_zero, List.set_cons_succ]
  refine takeY 18 (some 60) rfl rfl (by kernel_rfl) (by kernel_rfl) (by kernel_rfl) (fun _ _ _ h => h) (by rfl) (v := _) (by (intro _ hSw; (try dsimp only at hSw); go_simp; try with_reducible rfl)) hHeld ?_
  simp only [Act.put, List.setIfInBounds_toArray, List.set_cons_zero, List.set_cons_succ]
  refine takeY 19 (some 61) rfl rfl (by kernel_rfl) (by kernel_rfl) (by kernel_rfl) (fun _ _ _ h => h) (by rfl) (v := _) (by (intro _ hSw; (try dsimp only at hSw); go_simp; try with_reducible rfl)) hHeld ?_
  simp only [Act.put, List.setIfInBounds_toArray, List.set_cons_zero, List.set_cons_succ]
  refine wpAnyH_ready (rs := [17]) (by kernel_rfl) (by simp) ?_
  refine AllReadyH.cons rfl (fun K hK => ?_) AllReadyH.nil
  clear hHeld
  go_simp
  go_wp2_with (go_at_call 22; refine Calls.mono (HAp.out _ (HW4.out.1.bm.bel (Below.refl wj.heap.size wj).drew)) ?_; rintro e wk ⟨A5, c5, rfl, hm⟩; have hbk : Below wj.heap.size wj wk := (Below.refl wj.heap.size wj).drew.trans hm.bel; have HBk := Lib.hid (And.intro (HW4.out.1.bel' hbk) (And.intro (HW4.out.2.1.bel hbk) hm)); clear hbk hm y0j y1j y2j y3j i0j i1j i2j i3j s0j s1j s2j s3j; have y0k : World.cell? wk ⟨py, 0, none⟩ = some (.int .u8 1) := HBk.out.2.1.y.cells.1; have y1k : World.cell? wk ⟨py, 1, none⟩ = some (.string ⟨#[]⟩) := HBk.out.2.1.y.cells.2.1; have y2k : World.cell? wk ⟨py, 2, none⟩ = some (.int .i64 1) := HBk.out.2.1.y.cells.2.2.1; have y3k : World.cell? wk ⟨py, 3, none⟩ = some (.slice none 0 0) := HBk.out.2.1.y.cells.2.2.2; have i0k : World.cell? wk ⟨pi, 0, none⟩ = some (.int .u8 2) := HBk.out.2.1.i.cells.1; have i1k : World.cell? wk ⟨pi, 1, none⟩ = some (.string (str [105, 110, 116])) := HBk.out.2.1.i.cells.2.1; have i2k : World.cell? wk ⟨pi, 2, none⟩ = some (.int .i64 0) := HBk.out.2.1.i.cells.2.2.1; have i3k : World.cell? wk ⟨pi, 3, none⟩ = some (.slice none 0 0) := HBk.out.2.1.i.cells.2.2.2; have s0k : World.cell? wk ⟨ps, 0, none⟩ = some (.int .u8 2) := HBk.out.2.1.s.cells.1; have s1k : World.cell? wk ⟨ps, 1, none⟩ = some (.string (str [115, 116, 114, 105, 110, 103])) := HBk.out.2.1.s.cells.2.1; have s2k : World.cell? wk ⟨ps, 2, none⟩ = some (.int .i64 0) := HBk.out.2.1.s.cells.2.2.1; have s3k : World.cell? wk ⟨ps, 3, none⟩ = some (.slice none 0 0) := HBk.out.2.1.s.cells.2.2.2)
  refine hK.out _ _ ⟨y0k, y1k, y2k, y3k, i0k, i1k, i2k, i3k, s0k, s1k, s2k, s3k⟩ (fun hHeld => ?_)
  clear hK K
  refine wpAnyH_ready (rs := [20]) (by kernel_rfl) (by simp) ?_
  refine AllReadyH.cons rfl (fun K hK => ?_) AllReadyH.nil
  clear hHeld
  go_simp
  go_wp2_with (go_at_call 31; refine Calls.mono (HFu3.out _) ?_; rintro e wl ⟨A6, c6, rfl, hte, hbl⟩; have HBl := Lib.hid (And.intro (HBk.out.1.bel' hbl) (And.intro (HBk.out.2.1.bel hbl) (And.intro (HBk.out.2.2.at_.bel hbl) hte))); clear hbl hte y0k y1k y2k y3k i0k i1k i2k i3k s0k s1k s2k s3k; have y0l : World.cell? wl ⟨py, 0, none⟩ = some (.int .u8 1) := HBl.out.2.1.y.cells.1; have y1l : World.cell? wl ⟨py, 1, none⟩ = some (.string ⟨#[]⟩) := HBl.out.2.1.y.cells.2.1; have y2l : World.cell? wl ⟨py, 2, none⟩ = some (.int .i64 1) := HBl.out.2.1.y.cells.2.2.1; have y3l : World.cell? wl ⟨py, 3, none⟩ = some (.slice none 0 0) := HBl.out.2.1.y.cells.2.2.2; have i0l : World.cell? wl ⟨pi, 0, none⟩ = some (.int .u8 2) := HBl.out.2.1.i.cells.1; have i1l : World.cell? wl ⟨pi, 1, none⟩ = some (.string (str [105, 110, 116])) := HBl.out.2.1.i.cells.2.1; have i2l : World.cell? wl ⟨pi, 2, none⟩ = some (.int .i64 0) := HBl.out.2.1.i.cells.2.2.1; have i3l : World.cell? wl ⟨pi, 3, none⟩ = some (.slice none 0 0) := HBl.out.2.1.i.cells.2.2.2; have s0l : World.cell? wl ⟨ps, 0, none⟩ = some (.int .u8 2) := HBl.out.2.1.s.cells.1; have s1l : World.cell? wl ⟨ps, 1, none⟩ = some (.string (str [115, 116, 114, 105, 110, 103])) := HBl.out.2.1.s.cells.2.1; have s2l : World.cell? wl ⟨ps, 2, none⟩ = some (.int .i64 0) := HBl.out.2.1.s.cells.2.2.1; have s3l : World.cell? wl ⟨ps, 3, none⟩ = some (.slice none 0 0) := HBl.out.2.1.s.cells.2.2.2)
  refine hK.out _ _ ⟨y0l, y1l, y2l, y3l, i0l, i1l, i2l, i3l, s0l, s1l, s2l, s3l⟩ (fun hHeld => ?_)
  clear hK K
  refine wpAnyH_ready (rs := [21]) (by kernel_rfl) (by simp) ?_
  refine AllReadyH.cons rfl (fun K hK => ?_) AllReadyH.nil
  clear hHeld
  go_simp
  go_wp2_with (go_at_call 14; refine Calls.mono (wS HBl.out.2.2.1 HBk.out.2.2.len HBk.out.2.2.cap HBl.out.2.2.2.1) ?_; rintro e wm ⟨rfl, hbm⟩; have HBm := Lib.hid (And.intro (HBl.out.1.bel' hbm) (HBl.out.2.1.bel hbm)); clear hbm y0l y1l y2l y3l i0l i1l i2l i3l s0l s1l s2l s3l; have y0m : World.cell? wm ⟨py, 0, none⟩ = some (.int .u8 1) := HBm.out.2.y.cells.1; have y1m : World.cell? wm ⟨py, 1, none⟩ = some (.string ⟨#[]⟩) := HBm.out.2.y.cells.2.1; have y2m : World.cell? wm ⟨py, 2, none⟩ = some (.int .i64 1) := HBm.out.2.y.cells.2.2.1; have y3m : World.cell? wm ⟨py, 3, none⟩ = some (.slice none 0 0) := HBm.out.2.y.cells.2.2.2; have i0m : World.cell? wm ⟨pi, 0, none⟩ = some (.int .u8 2) := HBm.out.2.i.cells.1; have i1m : World.cell? wm ⟨pi, 1, none⟩ = some (.string (str [105, 110, 116])) := HBm.out.2.i.cells.2.1; have i2m : World.cell? wm ⟨pi, 2, none⟩ = some (.int .i64 0) := HBm.out.2.i.cells.2.2.1; have i3m : World.cell? wm ⟨pi, 3, none⟩ = some (.slice none 0 0) := HBm.out.2.i.cells.2.2.2; have s0m : World.cell? wm ⟨ps, 0, none⟩ = some (.int .u8 2) := HBm.out.2.s.cells.1; have s1m : World.cell? wm ⟨ps, 1, none⟩ = some (.string (str [115, 116, 114, 105, 110, 103])) := HBm.out.2.s.cells.2.1; have s2m : World.cell? wm ⟨ps, 2, none⟩ = some (.int .i64 0) := HBm.out.2.s.cells.2.2.1; have s3m : World.cell? wm ⟨ps, 3, none⟩ = some (.slice none 0 0) := HBm.out.2.s.cells.2.2.2)
  refine hK.out _ _ ⟨y0m, y1m, y2m, y3m, i0m, i1m, i2m, i3m, s0m, s1m, s2m, s3m⟩ (fun hHeld => ?_)
  clear hK K
  refine takeY 22 (some 64) rfl rfl (by kernel_rfl) (by kernel_rfl) (by kernel_rfl) (fun _ _ _ h => h) (by rfl) (v := _) (by (intro _ hSw; (try dsimp only at hSw); go_simp; try with_reducible rfl)) hHeld ?_
  simp only [Act.put, List.setIfInBounds_toArray, List.set_cons_zero, List.set_cons_succ]
  refine takeY 23 (some 0) rfl rfl (by kernel_rfl) (by kernel_rfl) (by kernel_rfl) (fun _ _ _ h => h) (by rfl) (v := _) (by (intro _ hSw; (try dsimp only at hSw); go_simp; try with_reducible rfl)) hHeld ?_
  simp only [Act.put, List.setIfInBounds_toArray, List.set_cons_zero, List.set_cons_succ]
  refine wpAnyH_done (by kernel_rfl) ?_ _
  clear hHeld
  go_wp2_with fail
  go_ret
  exact ⟨rfl, HBm.out.1.bel⟩
end Go.Proofs.Ytndhojnfjlkojaa
