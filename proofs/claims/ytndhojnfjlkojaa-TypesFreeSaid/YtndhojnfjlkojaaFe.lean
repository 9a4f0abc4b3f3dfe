/- types: Free, of a book. -/
import Derived.Test.YtndhojnfjlkojaaFr
import Derived.Test.YtndhojnfjlkojaaUy
import Derived.Carry
namespace Go.Proofs.Ytndhojnfjlkojaa
open Go.RowKit
set_option linter.unusedVariables false
set_option linter.unusedSimpArgs false
attribute [local go_sem] Oper.semAt_some
open Ty
theorem hmf17' : ∀ (fn : Fn) (first cap : Array Value) (w : World), (Instr.makeFunc fn first cap).run Try.prog w = .ok (.func fn first cap) w := fun _ _ _ _ => rfl
theorem own_base {w : World} {B B' : Nat} {e : TypeId} {size : Nat} {v : Value} {n : Nat} {xs : List Value} (h : w.ownsRow B e size v n xs) (hB : B' ≤ B) : w.ownsRow B' e size v n xs := by
  refine ⟨h.1, ?_⟩
  rcases h.2 with hn | ⟨g, cap, cur, rfl, hb, rest⟩
  · exact .inl hn
  · exact .inr ⟨g, cap, cur, rfl, Nat.le_trans hB hb, rest⟩
theorem ent_free1 : Enters Try.prog 45 := enters_of Try.func45 (by kernel_rfl) rfl
/-- What Free tells. -/
def FreeR (w : World) (N : Nat) (S : Int → Ty) (t : Ty) (e : Ending) (w' : World) : Prop :=
  ∃ (A' : Option Addr) (n c' : Nat) (fs : List Int), e = .returned (.slice A' n c') ∧ fs.length = n ∧ w'.ownsRow w.heap.size 3 1 (.slice A' n c') n (fs.map fun x => Value.int .i64 x) ∧ Below w.heap.size w w' ∧ fs.Nodup ∧ ∀ f ∈ fs, good N t ∧ ¬ great (t.sub S) ∧ f ∈ (t.sub S).nums
theorem FreeR.nil {w w' : World} {N : Nat} {S : Int → Ty} {t : Ty} (h : Below w.heap.size w w') : FreeR w N S t (.returned (.slice none 0 0)) w' := ⟨none, 0, 0, [], rfl, rfl, World.ownsRow_nil _ _ _ _, h, List.nodup_nil, fun f h => by cases h⟩
set_option maxRecDepth 20000 in
set_option maxHeartbeats 8000000 in
theorem Free_any {w : World} {g N : Nat} {l : List (Int × Ty)} {S : Int → Ty} {vb vt : Value} (hS : Slv N (look l) S) (t : Ty) (A : Option Addr) (c : Nat) (hT : Tm (Mut g vb vt) w t A c) (hB : BM w g N l vb vt) :
    Calls Try.prog 24 #[.pointer (some ⟨g, 0, none⟩), t.val A c] w (FreeR w N S t) := by
  obtain ⟨tl, htl⟩ : ∃ tl, t.ks.length = tl := ⟨_, rfl⟩
  obtain ⟨w0, hw0⟩ : ∃ w0, w.alloc (.cells #[.int .u8 (t.k : Int), .string (str t.nm), .int .i64 t.n, .slice A tl c] 24) = w0 := ⟨_, rfl⟩
  have hb0 : Below w.heap.size w w0 := by rw [← hw0]; exact (Below.refl _ _).alloc (Nat.le_refl _) _
  have hD0 : Blk w0 w.heap.size 24 #[.int .u8 (t.k : Int), .string (str t.nm), .int .i64 t.n, .slice A tl c] := by rw [← hw0]; exact Blk.new _ _ _
  obtain ⟨Ab, cb, rfl, _, _⟩ := hB.shape
  have hBk := (hB.bel hb0).bk
  have ht0 := (hT.bel hb0).tb
  have hK1 : ∀ W, Below w0.heap.size w0 W → Calls Try.prog 40 #[.pointer (some ⟨g, 0, none⟩), t.val A c] W fun e w' => ∃ b, e = .returned (.bool b) ∧ (b = true ↔ good N t) ∧ Below w0.heap.size w0 w' := fun W hW => (knows_any t A c W (ht0.bel hW) (hBk.bel hW)).mono fun e w' ⟨b, h1, h2, h3⟩ => ⟨b, h1, h2, hW.trans (h3.mono hW.size)⟩
  have hG1 : good N t → ∀ W, Below w0.heap.size w0 W → Calls Try.prog 41 #[.pointer (some ⟨g, 0, none⟩), t.val A c] W fun e w' => ∃ b, e = .returned (.bool b) ∧ (b = true ↔ great (t.sub S)) ∧ Below w0.heap.size w0 w' := fun hg W hW => (great_any hS t A c W hg (ht0.bel hW) (hBk.bel hW)).mono fun e w' ⟨b, h1, h2, h3⟩ => ⟨b, h1, h2, hW.trans (h3.mono hW.size)⟩
  have hA1 : good N t → (t.sub S).parts ≤ 100000 → ∀ W, Below w0.heap.size w0 W → Calls Try.prog 42 #[.pointer (some ⟨g, 0, none⟩), t.val A c] W fun e w' => ∃ A2 c2, e = .returned ((t.sub S).val A2 c2) ∧ Made W w' (t.sub S) A2 c2 := fun hg hp W hW => apply_any hS (meas N S t + 1) t A c W (Nat.lt_succ_self _) hg hp (ht0.bel hW) (hBk.bel hW)
  have e1 : t.val A c = .agg #[.int .u8 (t.k : Int), .string (str t.nm), .int .i64 t.n, .slice A tl c] := by unfold Ty.val; rw [htl]
  rw [e1] at hK1 hG1 hA1 ⊢
  have d0 := hD0.cell 0
  have d1 := hD0.cell 1
  have d2 := hD0.cell 2
  have d3 := hD0.cell 3
  simp only [List.getElem?_toArray, List.getElem?_cons_zero, List.getElem?_cons_succ] at d0 d1 d2 d3
  have HI := Lib.hid (And.intro hb0 (And.intro hD0 (And.intro hS hB.few)))
  have HRF := Lib.hid (Below.refl w0.heap.size w0)
  by_cases hgs : good N t
  case neg =>
    have HC := Lib.hid ((hK1 w0 (Below.refl _ _)).mono fun e w' (h : ∃ b, e = .returned (.bool b) ∧ (b = true ↔ good N t) ∧ Below w0.heap.size w0 w') => (show e = .returned (.bool false) ∧ Below w0.heap.size w0 w' from by
      obtain ⟨b, h1, h2, h3⟩ := h
      exact ⟨by rw [h1]; cases b with | false => rfl | true => exact absurd (h2.1 rfl) hgs, h3⟩))
    clear hb0 hD0 hBk ht0 hK1 hG1 hA1 e1 hS hB hT htl hgs
    go_enter Try.func24, Try.ntmps24
    go_upto_region 1 with fail
    (try rw [hw0])
    clear hw0
    go_wp2_with (go_at_call 40; refine HC.out.mono ?_; rintro e w1 ⟨rfl, hb1⟩; have HB1 := Lib.hid hb1; clear hb1)
    go_ret
    exact FreeR.nil (HI.out.1.trans (HB1.out.mono HI.out.1.size))
  have HC := Lib.hid ((hK1 w0 (Below.refl _ _)).mono fun e w' (h : ∃ b, e = .returned (.bool b) ∧ (b = true ↔ good N t) ∧ Below w0.heap.size w0 w') => (show e = .returned (.bool true) ∧ Below w0.heap.size w0 w' from by
      obtain ⟨b, h1, h2, h3⟩ := h
      exact ⟨by rw [h1]; cases b with | true => rfl | false => exact absurd (h2.2 hgs) (by decide), h3⟩))
  by_cases hgr : great (t.sub S)
  case pos =>
    have HC2 : Hid (∀ W, Below w0.heap.size w0 W → Calls Try.prog 41 #[.pointer (some ⟨g, 0, none⟩), .agg #[.int .u8 (t.k : Int), .string (str t.nm), .int .i64 t.n, .slice A tl c]] W fun e w' => e = .returned (.bool true) ∧ Below w0.heap.size w0 w') := Lib.hid fun W hW => (hG1 hgs W hW).mono fun e w' ⟨b, h1, h2, h3⟩ => ⟨by rw [h1, h2.2 hgr], h3⟩
    clear hb0 hD0 hBk ht0 hK1 hG1 hA1 e1 hS hB hT htl hgs hgr
    go_enter Try.func24, Try.ntmps24
    go_upto_region 1 with fail
    (try rw [hw0])
    clear hw0
    go_wp2_with (first
      | (go_at_call 40; refine HC.out.mono ?_; rintro e w1 ⟨rfl, hb1⟩; have HB1 := Lib.hid hb1; clear hb1 d0 d1 d2 d3; have bx := HI.out.2.1.below HB1.out HI.out.2.1.lt; have d0 := bx.cell 0; have d1 := bx.cell 1; have d2 := bx.cell 2; have d3 := bx.cell 3; simp only [List.getElem?_toArray, List.getElem?_cons_zero, List.getElem?_cons_succ] at d0 d1 d2 d3; clear bx)
      | (go_at_call 41; refine (HC2.out _ HB1.out).mono ?_; rintro e w2 ⟨rfl, hb2⟩; have HB2 := Lib.hid hb2; clear hb2))
    go_ret
    exact FreeR.nil (HI.out.1.trans (HB2.out.mono HI.out.1.size))
  have HC2 : Hid (∀ W, Below w0.heap.size w0 W → Calls Try.prog 41 #[.pointer (some ⟨g, 0, none⟩), .agg #[.int .u8 (t.k : Int), .string (str t.nm), .int .i64 t.n, .slice A tl c]] W fun e w' => e = .returned (.bool false) ∧ Below w0.heap.size w0 w') := Lib.hid fun W hW => (hG1 hgs W hW).mono fun e w' ⟨b, h1, h2, h3⟩ => ⟨by rw [h1]; cases b with | false => rfl | true => exact absurd (h2.1 rfl) hgr, h3⟩
  have hpt : (t.sub S).parts ≤ 100000 := by unfold great at hgr; omega
  obtain ⟨P, hP⟩ : ∃ P, t.sub S = P := ⟨_, rfl⟩
  obtain ⟨pn, hpn⟩ : ∃ pn, P.ks.length = pn := ⟨_, rfl⟩
  have HAp : Hid (∀ W, Below w0.heap.size w0 W → Calls Try.prog 42 #[.pointer (some ⟨g, 0, none⟩), .agg #[.int .u8 (t.k : Int), .string (str t.nm), .int .i64 t.n, .slice A tl c]] W fun e w' => ∃ A2 c2, e = .returned (.agg #[.int .u8 (P.k : Int), .string (str P.nm), .int .i64 P.n, .slice A2 pn c2]) ∧ Made W w' P A2 c2) := Lib.hid fun W hW => by
    have h := hA1 hgs hpt W hW
    rw [hP] at h
    unfold Ty.val at h
    rw [hpn] at h
    exact h
  have hgP := (hS.good_sub hgs).1
  rw [hP] at hgP
  have HG := Lib.hid (And.intro hgs (And.intro hgr (And.intro hP (And.intro hpn (And.intro hgP hB.few)))))
  clear hb0 hD0 hBk ht0 hK1 hG1 hA1 e1 hS hB hT htl hgs hgr hpt hP hpn hgP
  have hmm := @run_makeMap Try.prog
  have hmf := hmf17'
  go_enter Try.func24, Try.ntmps24
  go_upto_region 1 with fail
  (try rw [hw0])
  clear hw0
  go_upto_region 3 with (first
      | (go_at_call 40; refine HC.out.mono ?_; rintro e w1 ⟨rfl, hb1⟩; have HB1 := Lib.hid hb1; clear hb1 d0 d1 d2 d3; have bx := HI.out.2.1.below HB1.out HI.out.2.1.lt; have d0 := bx.cell 0; have d1 := bx.cell 1; have d2 := bx.cell 2; have d3 := bx.cell 3; simp only [List.getElem?_toArray, List.getElem?_cons_zero, List.getElem?_cons_succ] at d0 d1 d2 d3; clear bx)
      | (go_at_call 41; refine (HC2.out _ HB1.out).mono ?_; rintro e w2 ⟨rfl, hb2⟩; have HB2 := Lib.hid hb2; clear hb2))
  clear d0 d1 d2 d3 HC HC2
  obtain ⟨w3, hw3⟩ : ∃ w3, w2.alloc (.cells #[.slice none 0 0] 44) = w3 := ⟨_, rfl⟩
  have hb3 : Below w2.heap.size w2 w3 := by rw [← hw3]; exact (Below.refl _ _).alloc (Nat.le_refl _) _
  have hl3 : Blk w3 w2.heap.size 44 #[.slice none 0 0] := by rw [← hw3]; exact Blk.new _ _ _
  have hz3 : w3.heap.size = w2.heap.size + 1 := by rw [← hw3]; simp
  obtain ⟨w4, hw4⟩ : ∃ w4, w3.alloc (.map #[] 0) = w4 := ⟨_, rfl⟩
  have hb4 : Below w3.heap.size w3 w4 := by rw [← hw4]; exact (Below.refl _ _).alloc (Nat.le_refl _) _
  have hm4 : KMap w4 w3.heap.size 0 (fun _ => false) := by rw [← hw4]; exact KMap.made w3
  have hz4 : w4.heap.size = w3.heap.size + 1 := by rw [← hw4]; simp
  obtain ⟨w5, hw5⟩ : ∃ w5, w4.alloc (.cells #[.map (some w3.heap.size)] 64) = w5 := ⟨_, rfl⟩
  have hb5 : Below w4.heap.size w4 w5 := by rw [← hw5]; exact (Below.refl _ _).alloc (Nat.le_refl _) _
  have hs5 : Blk w5 w4.heap.size 64 #[.map (some w3.heap.size)] := by rw [← hw5]; exact Blk.new _ _ _
  have hz5 : w5.heap.size = w4.heap.size + 1 := by rw [← hw5]; simp
  have hm5 := hm4.same (hb5.block _ hm4.lt)
  have hl5 := (hl3.below hb4 hl3.lt).below hb5 (by omega)
  have hb05 := HB2.out.trans (((hb3.trans (hb4.mono hb3.size)).trans (hb5.mono (by omega))).mono HB2.out.size)
  have bx := HI.out.2.1.below hb05 HI.out.2.1.lt
  have d0 := bx.cell 0
  have d1 := bx.cell 1
  have d2 := bx.cell 2
  have d3 := bx.cell 3
  simp only [List.getElem?_toArray, List.getElem?_cons_zero, List.getElem?_cons_succ] at d0 d1 d2 d3
  have HW3 := Lib.hid hw3
  have HW4 := Lib.hid hw4
  have HW5 := Lib.hid hw5
  have HX := Lib.hid (And.intro hl5 (And.intro hm5 (And.intro hs5 (And.intro hb05 (And.intro hz3 (And.intro hz4 hz5))))))
  clear hw3 hw4 hw5 hb3 hl3 hz3 hb4 hm4 hz4 hb5 hs5 hz5 hm5 hl5 hb05 bx
  go_upto_region 4 with fail
  (try rw [HW3.out])
  go_upto_region 5 with fail
  (try rw [HW4.out])
  (try rw [HW5.out])
  clear HW3 HW4 HW5
  have HE : Hid (∀ (w6 : World) (A2 : Option Addr) (c2 : Nat), Made w5 w6 P A2 c2 → Calls Try.prog 44 #[.agg #[.int .u8 (P.k : Int), .string (str P.nm), .int .i64 P.n, .slice A2 pn c2], .func (.func 45) #[] #[.pointer (some ⟨w3.heap.size + 1, 0, none⟩), .pointer (some ⟨w2.heap.size, 0, none⟩)]] w6 fun e w' => ∃ (b : Bool) (A' : Option Addr) (n c' : Nat) (fs : List Int), e = .returned (.bool b) ∧ w'.cell? ⟨w2.heap.size, 0, none⟩ = some (.slice A' n c') ∧ Hid (fs.length = n ∧ w'.ownsRow w.heap.size 3 1 (.slice A' n c') n (fs.map fun x => Value.int .i64 x) ∧ Below w.heap.size w w' ∧ fs.Nodup ∧ ∀ f ∈ fs, f ∈ P.nums)) := Lib.hid fun w6 A2 c2 hM => by
    rw [← HX.out.2.2.2.2.2.1]
    obtain ⟨x1, x2, x3, x4, x5, x6, x7⟩ := HX.out
    have h0 := HI.out.1.size
    have h2 := HB2.out.size
    have h6 := hM.bel.size
    have hJ : FrJ w6.heap.size N w2.heap.size w4.heap.size w3.heap.size [] w6 := ⟨[], .slice none 0 0, fun _ => false, ⟨x1.below hM.bel x1.lt, World.ownsRow_nil _ _ _ _, x3.below hM.bel x3.lt, x2.same (hM.bel.block _ x2.lt), ⟨by omega, by omega, by omega⟩, ⟨by omega, by omega, by omega⟩, List.nodup_nil, fun i _ => by simp, Nat.le_refl _⟩, (fun f h => by cases h), fun f h => by cases h⟩
    have hgn := HG.out.2.2.2.2.1
    have h := each_any (F := fun b => b < w6.heap.size ∧ b ≠ w2.heap.size ∧ b ≠ w3.heap.size) 45 ent_free1 #[.pointer (some ⟨w4.heap.size, 0, none⟩), .pointer (some ⟨w2.heap.size, 0, none⟩)] (FrJ w6.heap.size N w2.heap.size w4.heap.size w3.heap.size) (fun _ => False) (fun n => 0 ≤ n ∧ n < (N : Int))
      (fun d W W' ⟨fs, v, S', k1, k2, k3⟩ hb => ⟨fs, v, S', k1.bel hb, k2, k3⟩) (fun n d W hn hJ => free1_any HG.out.2.2.2.2.2 n d W hn hJ) P A2 c2 [] w6 (hM.at_.mono fun b hb => ⟨hb.2, by omega, by omega⟩) hM.len hM.cap (fun m hm => ⟨nums_nonneg P hgn.1 m hm, hgn.2 m hm⟩) hJ
    unfold Ty.val at h
    rw [HG.out.2.2.2.1] at h
    refine h.mono ?_
    rintro e w' ⟨b, k1, k2, k3, k4⟩
    have hb : b = true := by cases b with | true => rfl | false => exact absurd (k4 rfl) id
    obtain ⟨fs, v, S', q1, q2, q3⟩ := k3 hb
    obtain ⟨A', c', rfl, _, _⟩ := own_shape1' q1.row
    have hbw : Below w.heap.size w w' := (HI.out.1.trans ((x4.trans (hM.bel.mono x4.size)).mono HI.out.1.size)).trans (k2.below (by omega) fun k hk => by
      rcases Nat.lt_or_ge k w.heap.size with hlt | hge
      · exact absurd ⟨by omega, by omega, by omega⟩ hk
      · exact hge)
    exact ⟨b, A', fs.length, c', fs, k1, q1.l.cell 0, Lib.hid ⟨rfl, own_base q1.row (by omega), hbw, q1.nd, fun f hf => by have := q2 f hf; simpa using this⟩⟩
  go_wp2_with (first
    | (go_at_call 42; refine (HAp.out _ HX.out.2.2.2.1).mono ?_; rintro e w6 ⟨A2, c2, rfl, hM⟩; have HC := Lib.hid (HE.out w6 A2 c2 hM); clear hM d0 d1 d2 d3)
    | (go_at_call 44; refine HC.out.mono ?_; rintro e w7 ⟨b, A', n, c', fs, rfl, hc, HR⟩))
  go_ret
  exact ⟨A', n, c', fs, rfl, HR.out.1, HR.out.2.1, HR.out.2.2.1, HR.out.2.2.2.1, fun f hf => ⟨HG.out.1, HG.out.2.1, by rw [HG.out.2.2.1]; exact HR.out.2.2.2.2 f hf⟩⟩
end Go.Proofs.Ytndhojnfjlkojaa
