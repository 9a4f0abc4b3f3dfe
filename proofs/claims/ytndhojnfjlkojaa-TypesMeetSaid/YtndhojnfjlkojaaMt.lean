/- types: TypesMeet. -/
import Derived.Test.YtndhojnfjlkojaaVa
import Derived.Test.YtndhojnfjlkojaaWk
import Derived.Test.YtndhojnfjlkojaaOp
import Derived.Test.YtndhojnfjlkojaaMm
import Derived.Test.YtndhojnfjlkojaaN
import Derived.Test.YtndhojnfjlkojaaTake
namespace Go.Proofs.Ytndhojnfjlkojaa
open Go.RowKit
set_option linter.unusedVariables false
set_option linter.unusedSimpArgs false
attribute [local go_sem] Oper.semAt_some
open Ty
set_option maxRecDepth 20000 in
set_option maxHeartbeats 8000000 in
theorem meet_law (m : Nat) (hm : m < 256) (s t : Ty) (A : Option Addr) (c : Nat) (B : Option Addr) (d : Nat) (L : Option Addr) (ll lc : Nat) (ts : List Ty) (w : World) (hs : Tb w.heap.size w s A c) (ht : Tb w.heap.size w t B d) (hll : ts.length = ll) (hlc : ll ≤ lc) (hlm : lc ≤ maxLen) (hL : Ty.At (fun b => b < w.heap.size) w L ts) :
    Calls Try.prog 4 #[.int .u8 (m : Int), s.val A c, t.val B d, .slice L ll lc] w fun e w' => e = .returned (.bool true) ∧ Below w.heap.size w w' := by
  obtain ⟨sl, hsl⟩ : ∃ sl, s.ks.length = sl := ⟨_, rfl⟩
  obtain ⟨tl, htl⟩ : ∃ tl, t.ks.length = tl := ⟨_, rfl⟩
  obtain ⟨w0, hw0⟩ : ∃ w0, (w.alloc (.cells #[.int .u8 (s.k : Int), .string (str s.nm), .int .i64 s.n, .slice A sl c] 24)).alloc (.cells #[.int .u8 (t.k : Int), .string (str t.nm), .int .i64 t.n, .slice B tl d] 24) = w0 := ⟨_, rfl⟩
  have hb0 : Below w.heap.size w w0 := by rw [← hw0]; exact ((Below.refl _ _).alloc (Nat.le_refl _) _).alloc (by simp) _
  have hS0 : Blk w0 w.heap.size 24 #[.int .u8 (s.k : Int), .string (str s.nm), .int .i64 s.n, .slice A sl c] := by rw [← hw0]; exact (Blk.new _ _ _).alloc _
  have hT0 : Blk w0 (w.heap.size + 1) 24 #[.int .u8 (t.k : Int), .string (str t.nm), .int .i64 t.n, .slice B tl d] := by
    have := Blk.new (w.alloc (.cells #[.int .u8 (s.k : Int), .string (str s.nm), .int .i64 s.n, .slice A sl c] 24)) 24 #[.int .u8 (t.k : Int), .string (str t.nm), .int .i64 t.n, .slice B tl d]
    rw [World.size_alloc] at this
    rw [← hw0]; exact this
  have hTb : ∀ (x : Ty) (Ax : Option Addr) (cx : Nat), Tb w.heap.size w x Ax cx → ∀ W, Below w0.heap.size w0 W → Tb W.heap.size W x Ax cx := fun x Ax cx hx W hW => ⟨((hx.bel (hb0.trans (hW.mono hb0.size))).at_).now, hx.len, hx.cap, hx.ok⟩
  have hVs : ∀ W, Below w0.heap.size w0 W → Calls Try.prog 8 #[s.val A c] W fun e w' => ∃ b, e = .returned (.bool b) ∧ (b = false → small s) ∧ Below W.heap.size W w' := fun W hW => vast_any s A c W (hTb s A c hs W hW)
  have hVt : ∀ W, Below w0.heap.size w0 W → Calls Try.prog 8 #[t.val B d] W fun e w' => ∃ b, e = .returned (.bool b) ∧ (b = false → small t) ∧ Below W.heap.size W w' := fun W hW => vast_any t B d W (hTb t B d ht W hW)
  unfold Ty.val at hVs hVt ⊢
  simp only [hsl] at hVs
  simp only [htl] at hVt
  rw [hsl, htl]
  have HVs := Lib.hid hVs
  have HVt := Lib.hid hVt
  have HBks := Lib.hid hS0
  have HBkt := Lib.hid hT0
  have HB0 := Lib.hid (Below.refl w0.heap.size w0)
  have HI := Lib.hid (And.intro hb0 (And.intro hs (And.intro ht (And.intro hL (And.intro hll (And.intro hsl htl))))))
  have HTb := Lib.hid hTb
  have HWk := Lib.hid works_any
  have hmx : ll ≤ 9223372036854775807 := by unfold maxLen at hlm; omega
  clear hb0 hS0 hT0 hTb hVs hVt hs ht hL hll hsl htl
  obtain ⟨k, hk⟩ : ∃ k, m % 12 = k := ⟨_, rfl⟩
  have hk2 : k < 12 := by omega
  have hmod : (m : Int).tmod 12 = (k : Int) := by rw [Int.tmod_eq_emod_of_nonneg (by omega)]; omega
  have HBo := Lib.hid fun W => books_any m hm W
  rw [hk] at HBo
  have HK := Lib.hid hk
  clear hk
  have bx := HBks.out.below HB0.out HBks.out.lt
  have s0a := bx.cell 0
  have s1a := bx.cell 1
  have s2a := bx.cell 2
  have s3a := bx.cell 3
  simp only [List.getElem?_toArray, List.getElem?_cons_zero, List.getElem?_cons_succ] at s0a s1a s2a s3a
  clear bx
  have bx := HBkt.out.below HB0.out HBkt.out.lt
  have t0a := bx.cell 0
  have t1a := bx.cell 1
  have t2a := bx.cell 2
  have t3a := bx.cell 3
  simp only [List.getElem?_toArray, List.getElem?_cons_zero, List.getElem?_cons_succ] at t0a t1a t2a t3a
  clear bx
  go_enter Try.func4, Try.ntmps4
  go_upto_region 1 with fail
  (try rw [hw0])
  clear hw0
  go_cut [24] from 14 to 24 (fun s21 wx => ∃ b : Bool, s21 = .bool b ∧ Hid (Below w0.heap.size w0 wx ∧ (b = false → small s ∧ small t ∧ ll ≤ 12)))
  case first =>
    by_cases hlen : 12 < ll
    · have q1 : decide ((ll : Int) > 12) = true := by simp; omega
      have q2 : decide (12 < ll) = true := by simp; omega
      go_wp2_with (first | (go_at_call_of 8 (Value.string (str s.nm)); refine (HVs.out _ HB0.out).mono ?_; rintro e w1 ⟨vs, rfl, hvs, hb⟩; have HB1 := Lib.hid (HB0.out.trans (hb.mono HB0.out.size)); have Hvs := Lib.hid hvs; clear hb hvs; clear s0a s1a s2a s3a t0a t1a t2a t3a; have bx := HBks.out.below HB1.out HBks.out.lt; have s0b := bx.cell 0; have s1b := bx.cell 1; have s2b := bx.cell 2; have s3b := bx.cell 3; simp only [List.getElem?_toArray, List.getElem?_cons_zero, List.getElem?_cons_succ] at s0b s1b s2b s3b; clear bx; have bx := HBkt.out.below HB1.out HBkt.out.lt; have t0b := bx.cell 0; have t1b := bx.cell 1; have t2b := bx.cell 2; have t3b := bx.cell 3; simp only [List.getElem?_toArray, List.getElem?_cons_zero, List.getElem?_cons_succ] at t0b t1b t2b t3b; clear bx; cases vs) | (go_at_call_of 8 (Value.string (str t.nm)); refine (HVt.out _ HB1.out).mono ?_; rintro e w2 ⟨vt, rfl, hvt, hb⟩; have HB2 := Lib.hid (HB1.out.trans (hb.mono HB1.out.size)); have Hvt := Lib.hid hvt; clear hb hvt; clear s0b s1b s2b s3b t0b t1b t2b t3b; cases vt))
      all_goals
        go_meet
        first | exact ⟨true, rfl, Lib.hid ⟨HB2.out, fun h => by cases h⟩⟩ | exact ⟨true, rfl, Lib.hid ⟨HB1.out, fun h => by cases h⟩⟩
    · have q1 : decide ((ll : Int) > 12) = false := by simp; omega
      have q2 : decide (12 < ll) = false := by simp; omega
      go_wp2_with (first | (go_at_call_of 8 (Value.string (str s.nm)); refine (HVs.out _ HB0.out).mono ?_; rintro e w1 ⟨vs, rfl, hvs, hb⟩; have HB1 := Lib.hid (HB0.out.trans (hb.mono HB0.out.size)); have Hvs := Lib.hid hvs; clear hb hvs; clear s0a s1a s2a s3a t0a t1a t2a t3a; have bx := HBks.out.below HB1.out HBks.out.lt; have s0b := bx.cell 0; have s1b := bx.cell 1; have s2b := bx.cell 2; have s3b := bx.cell 3; simp only [List.getElem?_toArray, List.getElem?_cons_zero, List.getElem?_cons_succ] at s0b s1b s2b s3b; clear bx; have bx := HBkt.out.below HB1.out HBkt.out.lt; have t0b := bx.cell 0; have t1b := bx.cell 1; have t2b := bx.cell 2; have t3b := bx.cell 3; simp only [List.getElem?_toArray, List.getElem?_cons_zero, List.getElem?_cons_succ] at t0b t1b t2b t3b; clear bx; cases vs) | (go_at_call_of 8 (Value.string (str t.nm)); refine (HVt.out _ HB1.out).mono ?_; rintro e w2 ⟨vt, rfl, hvt, hb⟩; have HB2 := Lib.hid (HB1.out.trans (hb.mono HB1.out.size)); have Hvt := Lib.hid hvt; clear hb hvt; clear s0b s1b s2b s3b t0b t1b t2b t3b; cases vt))
      all_goals
        go_meet
        first | exact ⟨true, rfl, Lib.hid ⟨HB2.out, fun h => by cases h⟩⟩ | exact ⟨true, rfl, Lib.hid ⟨HB1.out, fun h => by cases h⟩⟩ | exact ⟨false, rfl, Lib.hid ⟨HB2.out, fun _ => ⟨(by first | exact Hvs.out rfl | exact Hvs.out trivial), (by first | exact Hvt.out rfl | exact Hvt.out trivial), by omega⟩⟩⟩
  case rest =>
    obtain ⟨b, rfl, hX⟩ := hcut
    clear s0a s1a s2a s3a t0a t1a t2a t3a
    have wk : Hid (Calls Try.prog 9 #[] wc fun e w' => e = .returned (.bool true) ∧ Below w.heap.size w w') := Lib.hid ((HWk.out wc).mono fun e w' h => ⟨h.1, HI.out.1.trans ((hX.out.1.trans (h.2.mono hX.out.1.size)).mono HI.out.1.size)⟩)
    cases b with
    | true =>
      go_wp2_with (go_at_call 9; refine wk.out.mono ?_; rintro e w2 ⟨rfl, hb⟩; have HB2 := Lib.hid hb; clear hb)
      go_ret
      exact ⟨rfl, HB2.out⟩
    | false =>
      have HSm := Lib.hid (hX.out.2 rfl)
      have HBc := Lib.hid hX.out.1
      clear hX wk
      go_wp2_with fail
      go_loopw [9] (fun iv wr => ∃ i : Nat, i ≤ ll ∧ iv = .int .i64 (i : Int) ∧ Hid (Below w0.heap.size w0 wr ∧ ∀ (r : Nat) (x : Ty), r < i → ts[r]? = some x → small x)) (fun iv _ => ll - (intOf iv).toNat)
      case atStart => exact ⟨0, Nat.zero_le _, rfl, Lib.hid ⟨HBc.out, fun r x h => absurd h (Nat.not_lt_zero r)⟩⟩
      case round =>
        clear HBc
        obtain ⟨i, hi, rfl, hJ⟩ := hrel
        by_cases hli : i < ll
        · have hd : decide ((i : Int) < (ll : Int)) = true := by simpa using hli
          obtain ⟨x, hx⟩ : ∃ x, ts[i]? = some x := ⟨_, List.getElem?_eq_getElem (by rw [HI.out.2.2.2.2.1]; exact hli)⟩
          have hbr : Below w.heap.size w wr := HI.out.1.trans (hJ.out.1.mono HI.out.1.size)
          obtain ⟨b1, o1, A2, c2, rfl, _, _, z0, z1, z2, z3, hok, hxc, hcm, hAt⟩ := (Ty.At.belB HI.out.2.2.2.1 hbr).get hx
          have hC := vast_any x A2 c2 wr ⟨hAt.now, hxc, hcm, hok⟩
          unfold Ty.val at hC
          obtain ⟨xl, hxl⟩ : ∃ xl, x.ks.length = xl := ⟨_, rfl⟩
          rw [hxl] at hC z3
          have HC := Lib.hid hC
          have HX := Lib.hid hx
          clear hbr hok hxc hcm hAt hC hxl hx
          go_upto_if 36 with (go_at_call 8; refine HC.out.mono ?_; rintro e w3 ⟨vb, rfl, hvb, hb⟩; have HB3 := Lib.hid (hJ.out.1.trans (hb.mono hJ.out.1.size)); have Hvb := Lib.hid hvb; clear hb hvb)
          cases vb with
          | true =>
            clear z0 z1 z2 z3
            go_wp2_with (go_at_call 9; refine (HWk.out _).mono ?_; rintro e w4 ⟨rfl, hb⟩; have HB4 := Lib.hid (HB3.out.trans (hb.mono HB3.out.size)); clear hb)
            go_ret
            exact ⟨rfl, HI.out.1.trans (HB4.out.mono HI.out.1.size)⟩
          | false =>
            have HN : Hid (Below w0.heap.size w0 w3 ∧ ∀ (r : Nat) (x : Ty), r < i + 1 → ts[r]? = some x → small x) := Lib.hid ⟨HB3.out, fun r y hr hy => by
              by_cases e : r = i
              · subst e; rw [HX.out] at hy; cases hy; exact (by first | exact Hvb.out rfl | exact Hvb.out trivial)
              · exact hJ.out.2 r y (by omega) hy⟩
            clear hJ HC HX Hvb HB3 z0 z1 z2 z3
            go_wp2_with fail
            go_roundw
            case rel => exact ⟨i + 1, by omega, by go_num, HN⟩
            case measure => simp [intOf]; omega
        · obtain rfl : ll = i := by omega
          have hd : decide ((ll : Int) < (ll : Int)) = false := by simp
          have HAll : Hid (∀ x ∈ ts, small x) := Lib.hid fun x hx => by
            obtain ⟨r, hr⟩ := List.getElem?_of_mem hx
            exact hJ.out.2 r x (by have := (List.getElem?_eq_some_iff.1 hr).1; have := HI.out.2.2.2.2.1; omega) hr
          have HBr := Lib.hid hJ.out.1
          clear hJ
          have HT0 : Hid (Tb w0.heap.size w0 s A c ∧ Tb w0.heap.size w0 t B d) := Lib.hid ⟨HTb.out s A c HI.out.2.1 w0 (Below.refl _ _), HTb.out t B d HI.out.2.2.1 w0 (Below.refl _ _)⟩
          go_upto_region 9 with (go_at_call 19; refine (HBo.out _).mono ?_; rintro e w5 ⟨g, r, vb, rfl, hn⟩; have HW5 : Hid (BW w0 w5 g k [] vb (.slice none 0 0)) := Lib.hid ⟨hn.bm, HBr.out.trans (hn.bel.mono HBr.out.size), fun b h => Nat.le_trans HBr.out.size (hn.mt b h)⟩; clear hn)
          have bx := HBks.out.below HW5.out.bel HBks.out.lt
          have s0f := bx.cell 0
          have s1f := bx.cell 1
          have s2f := bx.cell 2
          have s3f := bx.cell 3
          simp only [List.getElem?_toArray, List.getElem?_cons_zero, List.getElem?_cons_succ] at s0f s1f s2f s3f
          clear bx
          have bx := HBkt.out.below HW5.out.bel HBkt.out.lt
          have t0f := bx.cell 0
          have t1f := bx.cell 1
          have t2f := bx.cell 2
          have t3f := bx.cell 3
          simp only [List.getElem?_toArray, List.getElem?_cons_zero, List.getElem?_cons_succ] at t0f t1f t2f t3f
          clear bx
          have hsl := HI.out.2.2.2.2.2.1
          have htl := HI.out.2.2.2.2.2.2
          have CU : Hid (Calls Try.prog 20 #[.pointer (some ⟨g, 0, none⟩), .agg #[.int .u8 (s.k : Int), .string (str s.nm), .int .i64 s.n, .slice A sl c], .agg #[.int .u8 (t.k : Int), .string (str t.nm), .int .i64 t.n, .slice B tl d]] w5 (UnR w5 g k vb (.slice none 0 0) s t [] tvar)) := Lib.hid (by
            have h := Unify_any (Slv.start k) s t A B c d (HW5.out.old HT0.out.1) (HW5.out.old HT0.out.2) HW5.out.bm
            unfold Ty.val at h
            rw [hsl, htl] at h
            exact h)
          go_upto_region 10 with (go_at_call 20; refine CU.out.mono ?_; rintro en w6 ⟨e, l1, S1, vt1, rfl, h1, h2, h3, h4⟩; have HW6 := Lib.hid (And.intro (HW5.out.step h3 h4) (And.intro h1 h2)); clear h1 h2 h3 h4 CU)
          clear s0f s1f s2f s3f t0f t1f t2f t3f
          have CA : Hid (∀ (W : World) (l : List (Int × Ty)) (S : Int → Ty) (vt : Value), BW w0 W g k l vb vt → Slv k (look l) S → Calls Try.prog 22 #[.pointer (some ⟨g, 0, none⟩), .agg #[.int .u8 (s.k : Int), .string (str s.nm), .int .i64 s.n, .slice A sl c]] W fun en w' => ∃ A2 c2, en = .returned ((applyT k S s).val A2 c2) ∧ Made W w' (applyT k S s) A2 c2) := Lib.hid fun W l S vt hW hS => by
            obtain ⟨Ab, cb, hvb, _, _⟩ := hW.bm.shape
            have h := Apply_any hS s A c W (by have := HSm.out.1.1; omega) (hW.old HT0.out.1).tb (hvb ▸ hW.bm : BM W g k l (.slice Ab k cb) vt).bk
            have e1 : s.val A c = .agg #[.int .u8 (s.k : Int), .string (str s.nm), .int .i64 s.n, .slice A sl c] := by unfold Ty.val; rw [hsl]
            rw [e1] at h
            exact h
          have CB : Hid (∀ (W : World) (l : List (Int × Ty)) (S : Int → Ty) (vt : Value), BW w0 W g k l vb vt → Slv k (look l) S → Calls Try.prog 22 #[.pointer (some ⟨g, 0, none⟩), .agg #[.int .u8 (t.k : Int), .string (str t.nm), .int .i64 t.n, .slice B tl d]] W fun en w' => ∃ A2 c2, en = .returned ((applyT k S t).val A2 c2) ∧ Made W w' (applyT k S t) A2 c2) := Lib.hid fun W l S vt hW hS => by
            obtain ⟨Ab, cb, hvb, _, _⟩ := hW.bm.shape
            have h := Apply_any hS t B d W (by have := HSm.out.2.1.1; omega) (hW.old HT0.out.2).tb (hvb ▸ hW.bm : BM W g k l (.slice Ab k cb) vt).bk
            have e1 : t.val B d = .agg #[.int .u8 (t.k : Int), .string (str t.nm), .int .i64 t.n, .slice B tl d] := by unfold Ty.val; rw [htl]
            rw [e1] at h
            exact h
          by_cases he : e = 0
          case neg =>
            have q0 : ((e : Int) != 0) = true := by unfold bne; simp [he]
            obtain ⟨rfl, rfl⟩ := uniT_err HW6.out.2.1 he
            have HM := Lib.hid (mark_any HW6.out.1.bm)
            have CA1 : Hid (∀ W, BW w0 W g k [] vb vt1 → Calls Try.prog 22 #[.pointer (some ⟨g, 0, none⟩), .agg #[.int .u8 (s.k : Int), .string (str s.nm), .int .i64 s.n, .slice A sl c]] W fun en w' => ∃ A2 c2, en = .returned (.agg #[.int .u8 (s.k : Int), .string (str s.nm), .int .i64 s.n, .slice A2 sl c2]) ∧ Made W w' s A2 c2) := Lib.hid fun W hW => by
              have h := CA.out W [] tvar vt1 hW (Slv.start k)
              rw [apply_start HSm.out.1] at h
              unfold Ty.val at h
              rw [hsl] at h
              exact h
            have CS1 : Hid (∀ (W : World) (A2 : Option Addr) (c2 : Nat) (F : Nat → Prop), Ty.At F W A2 s.ks → sl ≤ c2 → c2 ≤ maxLen → Below w0.heap.size w0 W → Calls Try.prog 14 #[.agg #[.int .u8 (s.k : Int), .string (str s.nm), .int .i64 s.n, .slice A2 sl c2], .agg #[.int .u8 (s.k : Int), .string (str s.nm), .int .i64 s.n, .slice A sl c]] W fun en w' => en = .returned (.bool true) ∧ Below W.heap.size W w') := Lib.hid fun W A2 c2 F k1 k2 k3 hW => by
              have h := rsame_any s s A2 c2 A c W k1 (by rw [hsl]; exact k2) k3 (HT0.out.1.bel hW).at_
              rw [same_refl] at h
              unfold Ty.val at h
              rw [hsl] at h
              exact h
            have bx := HBks.out.below HW6.out.1.bel HBks.out.lt
            have s0g := bx.cell 0
            have s1g := bx.cell 1
            have s2g := bx.cell 2
            have s3g := bx.cell 3
            simp only [List.getElem?_toArray, List.getElem?_cons_zero, List.getElem?_cons_succ] at s0g s1g s2g s3g
            clear bx
            have bx := HBkt.out.below HW6.out.1.bel HBkt.out.lt
            have t0g := bx.cell 0
            have t1g := bx.cell 1
            have t2g := bx.cell 2
            have t3g := bx.cell 3
            simp only [List.getElem?_toArray, List.getElem?_cons_zero, List.getElem?_cons_succ] at t0g t1g t2g t3g
            clear bx
            have HSL := Lib.hid hsl
            go_upto_region 11 with fail
            refine wp_region_held_drew (S := (fun W => W.cell? ⟨w.heap.size, 0, none⟩ = some (.int .u8 (s.k : Int)) ∧ W.cell? ⟨w.heap.size, 1, none⟩ = some (.string (str s.nm)) ∧ W.cell? ⟨w.heap.size, 2, none⟩ = some (.int .i64 s.n) ∧ W.cell? ⟨w.heap.size, 3, none⟩ = some (.slice A sl c))) (by kernel_rfl) ⟨s0g, s1g, s2g, s3g⟩ (fun hHeld => ?_)
            refine takeY 0 (some 49) rfl rfl (by kernel_rfl) (by kernel_rfl) (by kernel_rfl) (fun _ _ _ h => h) (by rfl) (v := _) (by (intro _ hSw; (try dsimp only at hSw); go_simp; try with_reducible rfl)) hHeld ?_
            simp only [Act.put, List.setIfInBounds_toArray, List.set_cons_zero, List.set_cons_succ]
            refine wpAnyH_ready (rs := [1]) (by kernel_rfl) (by simp) ?_
            refine AllReadyH.cons rfl (fun K hK => ?_) AllReadyH.nil
            clear hHeld
            go_simp
            go_wp2_with (go_at_call 21; refine Calls.mono (mark_any (HW6.out.1.bm.bel (Below.refl w6.heap.size w6).drew)) ?_; rintro en w7 ⟨rfl, rfl⟩)
            refine hK.out _ _ ⟨s0g, s1g, s2g, s3g⟩ (fun hHeld => ?_)
            clear hK K
            refine takeY 2 (some 51) rfl rfl (by kernel_rfl) (by kernel_rfl) (by kernel_rfl) (fun _ _ _ h => h) (by rfl) (v := _) (by (intro _ hSw; (try dsimp only at hSw); go_simp; try with_reducible rfl)) hHeld ?_
            simp only [Act.put, List.setIfInBounds_toArray, List.set_cons_zero, List.set_cons_succ]
            refine takeY 3 (some 52) rfl rfl (by kernel_rfl) (by kernel_rfl) (by kernel_rfl) (fun _ _ _ h => h) (by rfl) (v := _) (by (intro _ hSw; (try dsimp only at hSw); go_simp; try with_reducible rfl)) hHeld ?_
            simp only [Act.put, List.setIfInBounds_toArray, List.set_cons_zero, List.set_cons_succ]
            refine takeY 4 (some 53) rfl rfl (by kernel_rfl) (by kernel_rfl) (by kernel_rfl) (fun _ _ _ h => h) (by rfl) (v := _) (by (intro _ hSw; (try dsimp only at hSw); go_simp; try with_reducible rfl)) hHeld ?_
            simp only [Act.put, List.setIfInBounds_toArray, List.set_cons_zero, List.set_cons_succ]
            refine takeY 5 (some 54) rfl rfl (by kernel_rfl) (by kernel_rfl) (by kernel_rfl) (fun _ _ _ h => h) (by rfl) (v := _) (by (intro _ hSw; (try dsimp only at hSw); go_simp; try with_reducible rfl)) hHeld ?_
            simp only [Act.put, List.setIfInBounds_toArray, List.set_cons_zero, List.set_cons_succ]
            refine takeY 7 (some 56) rfl rfl (by kernel_rfl) (by kernel_rfl) (by kernel_rfl) (fun _ _ _ h => h) (by rfl) (v := _) (by (intro _ hSw; (try dsimp only at hSw); go_simp; try with_reducible rfl)) hHeld ?_
            simp only [Act.put, List.setIfInBounds_toArray, List.set_cons_zero, List.set_cons_succ]
            refine wpAnyH_ready (rs := [6]) (by kernel_rfl) (by simp) ?_
            refine AllReadyH.cons rfl (fun K hK => ?_) AllReadyH.nil
            clear hHeld
            go_simp
            go_wp2_with (go_at_call 22; refine Calls.mono (CA1.out _ (HW6.out.1.bel' (Below.refl w6.heap.size w6).drew)) ?_; rintro en w8 ⟨A2, c2, rfl, hmd⟩; have HW8 := Lib.hid ((HW6.out.1.bel' (Below.refl w6.heap.size w6).drew).bel' hmd.bel); have HMd := Lib.hid hmd; clear hmd s0g s1g s2g s3g t0g t1g t2g t3g; have bx := HBks.out.below HW8.out.bel HBks.out.lt; have s0h := bx.cell 0; have s1h := bx.cell 1; have s2h := bx.cell 2; have s3h := bx.cell 3; simp only [List.getElem?_toArray, List.getElem?_cons_zero, List.getElem?_cons_succ] at s0h s1h s2h s3h; clear bx; have bx := HBkt.out.below HW8.out.bel HBkt.out.lt; have t0h := bx.cell 0; have t1h := bx.cell 1; have t2h := bx.cell 2; have t3h := bx.cell 3; simp only [List.getElem?_toArray, List.getElem?_cons_zero, List.getElem?_cons_succ] at t0h t1h t2h t3h; clear bx)
            refine hK.out _ _ ⟨s0h, s1h, s2h, s3h⟩ (fun hHeld => ?_)
            clear hK K
            refine wpAnyH_ready (rs := [8]) (by kernel_rfl) (by simp) ?_
            refine AllReadyH.cons rfl (fun K hK => ?_) AllReadyH.nil
            clear hHeld
            go_simp
            go_wp2_with (go_at_call 14; refine Calls.mono (CS1.out _ A2 c2 _ HMd.out.at_ (by rw [← HSL.out]; exact HMd.out.len) HMd.out.cap HW8.out.bel) ?_; rintro en w9 ⟨rfl, hb⟩; have HW9 := Lib.hid (HW8.out.bel' hb); clear hb s0h s1h s2h s3h t0h t1h t2h t3h; have bx := HBks.out.below HW9.out.bel HBks.out.lt; have s0i := bx.cell 0; have s1i := bx.cell 1; have s2i := bx.cell 2; have s3i := bx.cell 3; simp only [List.getElem?_toArray, List.getElem?_cons_zero, List.getElem?_cons_succ] at s0i s1i s2i s3i; clear bx; have bx := HBkt.out.below HW9.out.bel HBkt.out.lt; have t0i := bx.cell 0; have t1i := bx.cell 1; have t2i := bx.cell 2; have t3i := bx.cell 3; simp only [List.getElem?_toArray, List.getElem?_cons_zero, List.getElem?_cons_succ] at t0i t1i t2i t3i; clear bx)
            refine hK.out _ _ ⟨s0i, s1i, s2i, s3i⟩ (fun hHeld => ?_)
            clear hK K
            refine takeY 9 (some 58) rfl rfl (by kernel_rfl) (by kernel_rfl) (by kernel_rfl) (fun _ _ _ h => h) (by rfl) (v := _) (by (intro _ hSw; (try dsimp only at hSw); go_simp; try with_reducible rfl)) hHeld ?_
            simp only [Act.put, List.setIfInBounds_toArray, List.set_cons_zero, List.set_cons_succ]
            refine takeY 10 (some 59) rfl rfl (by kernel_rfl) (by kernel_rfl) (by kernel_rfl) (fun _ _ _ h => h) (by rfl) (v := _) (by (intro _ hSw; (try dsimp only at hSw); go_simp; try with_reducible rfl)) hHeld ?_
            simp only [Act.put, List.setIfInBounds_toArray, List.set_cons_zero, List.set_cons_succ]
            refine wpAnyH_done (by kernel_rfl) ?_ _
            clear hHeld CA1 CS1 HMd HW8 CA CB
            go_upto_region 13 with fail
            go_cut [78] from 60 to 78 (fun s78 wx => s78 = .bool false ∧ Hid (Below w0.heap.size w0 wx))
            case first =>
              by_cases h13 : e = 13
              case neg =>
                have q1 : ((e : Int) == 13) = false := by simp; omega
                have HD := Lib.hid HW9.out.bel.drew
                refine wp_region_held_drew (S := fun _ => True) (by kernel_rfl) trivial (fun hHeld => ?_)
                refine takeY 0 (some 60) rfl rfl (by kernel_rfl) (by kernel_rfl) (by kernel_rfl) (fun _ _ _ h => h) (by rfl) (v := _) (by (intro _ hSw; (try dsimp only at hSw); go_simp; try with_reducible rfl)) hHeld ?_
                simp only [Act.put, List.setIfInBounds_toArray, List.set_cons_zero, List.set_cons_succ]
                refine takeY 1 (some 61) rfl rfl (by kernel_rfl) (by kernel_rfl) (by kernel_rfl) (fun _ _ _ h => h) (by rfl) (v := _) (by (intro _ hSw; (try dsimp only at hSw); go_simp; try with_reducible rfl)) hHeld ?_
                simp only [Act.put, List.setIfInBounds_toArray, List.set_cons_zero, List.set_cons_succ]
                refine takeY 2 (some 62) rfl rfl (by kernel_rfl) (by kernel_rfl) (by kernel_rfl) (fun _ _ _ h => h) (by rfl) (v := _) (by (intro _ hSw; (try dsimp only at hSw); go_simp; try with_reducible rfl)) hHeld ?_
                simp only [Act.put, List.setIfInBounds_toArray, List.set_cons_zero, List.set_cons_succ]
                refine takeN 3 (some 63) rfl rfl (by kernel_rfl) (by kernel_rfl) (by kernel_rfl) (fun _ _ _ h => h) (by rfl) hHeld ?_
                simp only [Act.put, List.setIfInBounds_toArray, List.set_cons_zero, List.set_cons_succ]
                refine takeN 4 (some 64) rfl rfl (by kernel_rfl) (by kernel_rfl) (by kernel_rfl) (fun _ _ _ h => h) (by rfl) hHeld ?_
                simp only [Act.put, List.setIfInBounds_toArray, List.set_cons_zero, List.set_cons_succ]
                refine takeN 5 (some 65) rfl rfl (by kernel_rfl) (by kernel_rfl) (by kernel_rfl) (fun _ _ _ h => h) (by rfl) hHeld ?_
                simp only [Act.put, List.setIfInBounds_toArray, List.set_cons_zero, List.set_cons_succ]
                refine takeN 6 (some 66) rfl rfl (by kernel_rfl) (by kernel_rfl) (by kernel_rfl) (fun _ _ _ h => h) (by rfl) hHeld ?_
                simp only [Act.put, List.setIfInBounds_toArray, List.set_cons_zero, List.set_cons_succ]
                refine takeN 7 (some 67) rfl rfl (by kernel_rfl) (by kernel_rfl) (by kernel_rfl) (fun _ _ _ h => h) (by rfl) hHeld ?_
                simp only [Act.put, List.setIfInBounds_toArray, List.set_cons_zero, List.set_cons_succ]
                refine takeN 8 (some 68) rfl rfl (by kernel_rfl) (by kernel_rfl) (by kernel_rfl) (fun _ _ _ h => h) (by rfl) hHeld ?_
                simp only [Act.put, List.setIfInBounds_toArray, List.set_cons_zero, List.set_cons_succ]
                refine takeY 9 (some 69) rfl rfl (by kernel_rfl) (by kernel_rfl) (by kernel_rfl) (fun _ _ _ h => h) (by rfl) (v := _) (by (intro _ hSw; (try dsimp only at hSw); go_simp; try with_reducible rfl)) hHeld ?_
                simp only [Act.put, List.setIfInBounds_toArray, List.set_cons_zero, List.set_cons_succ]
                refine takeY 10 (some 70) rfl rfl (by kernel_rfl) (by kernel_rfl) (by kernel_rfl) (fun _ _ _ h => h) (by rfl) (v := _) (by (intro _ hSw; (try dsimp only at hSw); go_simp; try with_reducible rfl)) hHeld ?_
                simp only [Act.put, List.setIfInBounds_toArray, List.set_cons_zero, List.set_cons_succ]
                refine takeN 11 (some 71) rfl rfl (by kernel_rfl) (by kernel_rfl) (by kernel_rfl) (fun _ _ _ h => h) (by rfl) hHeld ?_
                simp only [Act.put, List.setIfInBounds_toArray, List.set_cons_zero, List.set_cons_succ]
                refine takeN 12 (some 72) rfl rfl (by kernel_rfl) (by kernel_rfl) (by kernel_rfl) (fun _ _ _ h => h) (by rfl) hHeld ?_
                simp only [Act.put, List.setIfInBounds_toArray, List.set_cons_zero, List.set_cons_succ]
                refine takeN 13 (some 73) rfl rfl (by kernel_rfl) (by kernel_rfl) (by kernel_rfl) (fun _ _ _ h => h) (by rfl) hHeld ?_
                simp only [Act.put, List.setIfInBounds_toArray, List.set_cons_zero, List.set_cons_succ]
                refine takeN 14 (some 74) rfl rfl (by kernel_rfl) (by kernel_rfl) (by kernel_rfl) (fun _ _ _ h => h) (by rfl) hHeld ?_
                simp only [Act.put, List.setIfInBounds_toArray, List.set_cons_zero, List.set_cons_succ]
                refine takeN 15 (some 75) rfl rfl (by kernel_rfl) (by kernel_rfl) (by kernel_rfl) (fun _ _ _ h => h) (by rfl) hHeld ?_
                simp only [Act.put, List.setIfInBounds_toArray, List.set_cons_zero, List.set_cons_succ]
                refine takeN 16 (some 76) rfl rfl (by kernel_rfl) (by kernel_rfl) (by kernel_rfl) (fun _ _ _ h => h) (by rfl) hHeld ?_
                simp only [Act.put, List.setIfInBounds_toArray, List.set_cons_zero, List.set_cons_succ]
                refine takeN 17 (some 77) rfl rfl (by kernel_rfl) (by kernel_rfl) (by kernel_rfl) (fun _ _ _ h => h) (by rfl) hHeld ?_
                simp only [Act.put, List.setIfInBounds_toArray, List.set_cons_zero, List.set_cons_succ]
                refine takeY 18 (some 78) rfl rfl (by kernel_rfl) (by kernel_rfl) (by kernel_rfl) (fun _ _ _ h => h) (by rfl) (v := _) (by (intro _ hSw; (try dsimp only at hSw); go_simp; try with_reducible rfl)) hHeld ?_
                simp only [Act.put, List.setIfInBounds_toArray, List.set_cons_zero, List.set_cons_succ]
                refine wpAnyH_done (by kernel_rfl) ?_ _
                clear hHeld
                go_wp2_with fail
                go_meet
                exact ⟨rfl, HD⟩
              have q1 : ((e : Int) == 13) = true := by simp; omega
              have H13 := Lib.hid h13
              clear h13
              have hw1 : IntKind.i64.wrap (m : Int) = (m : Int) := IntWalk.i64_in _ ⟨by omega, by omega⟩
              have hw3 : IntKind.i64.wrap (k : Int) = (k : Int) := IntWalk.i64_in _ ⟨by omega, by omega⟩
              have hw2 : (IntKind.i64.wrap (m : Int)).tmod 12 = (k : Int) := by rw [hw1]; exact hmod
              by_cases hkl : k ≤ ll
              case neg =>
                have q2 : decide ((ll : Int) ≥ (k : Int)) = false := by simp; omega
                have q3 : decide (k ≤ ll) = false := by simp; omega
                have q4 : decide ((k : Int) ≤ (ll : Int)) = false := by simp; omega
                have HD := Lib.hid HW9.out.bel.drew
                refine wp_region_held_drew (S := fun _ => True) (by kernel_rfl) trivial (fun hHeld => ?_)
                refine takeY 0 (some 60) rfl rfl (by kernel_rfl) (by kernel_rfl) (by kernel_rfl) (fun _ _ _ h => h) (by rfl) (v := _) (by (intro _ hSw; (try dsimp only at hSw); go_simp; try with_reducible rfl)) hHeld ?_
                simp only [Act.put, List.setIfInBounds_toArray, List.set_cons_zero, List.set_cons_succ]
                refine takeY 1 (some 61) rfl rfl (by kernel_rfl) (by kernel_rfl) (by kernel_rfl) (fun _ _ _ h => h) (by rfl) (v := _) (by (intro _ hSw; (try dsimp only at hSw); go_simp; try with_reducible rfl)) hHeld ?_
                simp only [Act.put, List.setIfInBounds_toArray, List.set_cons_zero, List.set_cons_succ]
                refine takeY 2 (some 62) rfl rfl (by kernel_rfl) (by kernel_rfl) (by kernel_rfl) (fun _ _ _ h => h) (by rfl) (v := _) (by (intro _ hSw; (try dsimp only at hSw); go_simp; try with_reducible rfl)) hHeld ?_
                simp only [Act.put, List.setIfInBounds_toArray, List.set_cons_zero, List.set_cons_succ]
                refine takeY 3 (some 63) rfl rfl (by kernel_rfl) (by kernel_rfl) (by kernel_rfl) (fun _ _ _ h => h) (by rfl) (v := _) (by (intro _ hSw; (try dsimp only at hSw); go_simp; try with_reducible rfl)) hHeld ?_
                simp only [Act.put, List.setIfInBounds_toArray, List.set_cons_zero, List.set_cons_succ]
                refine takeY 4 (some 64) rfl rfl (by kernel_rfl) (by kernel_rfl) (by kernel_rfl) (fun _ _ _ h => h) (by rfl) (v := _) (by (intro _ hSw; (try dsimp only at hSw); go_simp; try with_reducible rfl)) hHeld ?_
                simp only [Act.put, List.setIfInBounds_toArray, List.set_cons_zero, List.set_cons_succ]
                refine takeY 5 (some 65) rfl rfl (by kernel_rfl) (by kernel_rfl) (by kernel_rfl) (fun _ _ _ h => h) (by rfl) (v := _) (by (intro _ hSw; (try dsimp only at hSw); go_simp; try with_reducible rfl)) hHeld ?_
                simp only [Act.put, List.setIfInBounds_toArray, List.set_cons_zero, List.set_cons_succ]
                refine wpAnyH_ready (rs := [6]) (by kernel_rfl) (by simp) ?_
                refine AllReadyH.cons rfl (fun K hK => ?_) AllReadyH.nil
                clear hHeld
                go_simp
                refine hK.out _ _ trivial (fun hHeld => ?_)
                clear hK K
                refine takeY 7 (some 67) rfl rfl (by kernel_rfl) (by kernel_rfl) (by kernel_rfl) (fun _ _ _ h => h) (by rfl) (v := _) (by (intro _ hSw; (try dsimp only at hSw); go_simp; try with_reducible rfl)) hHeld ?_
                simp only [Act.put, List.setIfInBounds_toArray, List.set_cons_zero, List.set_cons_succ]
                refine takeY 8 (some 68) rfl rfl (by kernel_rfl) (by kernel_rfl) (by kernel_rfl) (fun _ _ _ h => h) (by rfl) (v := _) (by (intro _ hSw; (try dsimp only at hSw); go_simp; try with_reducible rfl)) hHeld ?_
                simp only [Act.put, List.setIfInBounds_toArray, List.set_cons_zero, List.set_cons_succ]
                refine takeY 9 (some 69) rfl rfl (by kernel_rfl) (by kernel_rfl) (by kernel_rfl) (fun _ _ _ h => h) (by rfl) (v := _) (by (intro _ hSw; (try dsimp only at hSw); go_simp; try with_reducible rfl)) hHeld ?_
                simp only [Act.put, List.setIfInBounds_toArray, List.set_cons_zero, List.set_cons_succ]
                refine takeY 10 (some 70) rfl rfl (by kernel_rfl) (by kernel_rfl) (by kernel_rfl) (fun _ _ _ h => h) (by rfl) (v := _) (by (intro _ hSw; (try dsimp only at hSw); go_simp; try with_reducible rfl)) hHeld ?_
                simp only [Act.put, List.setIfInBounds_toArray, List.set_cons_zero, List.set_cons_succ]
                refine takeN 11 (some 71) rfl rfl (by kernel_rfl) (by kernel_rfl) (by kernel_rfl) (fun _ _ _ h => h) (by rfl) hHeld ?_
                simp only [Act.put, List.setIfInBounds_toArray, List.set_cons_zero, List.set_cons_succ]
                refine takeN 12 (some 72) rfl rfl (by kernel_rfl) (by kernel_rfl) (by kernel_rfl) (fun _ _ _ h => h) (by rfl) hHeld ?_
                simp only [Act.put, List.setIfInBounds_toArray, List.set_cons_zero, List.set_cons_succ]
                refine takeN 13 (some 73) rfl rfl (by kernel_rfl) (by kernel_rfl) (by kernel_rfl) (fun _ _ _ h => h) (by rfl) hHeld ?_
                simp only [Act.put, List.setIfInBounds_toArray, List.set_cons_zero, List.set_cons_succ]
                refine takeN 14 (some 74) rfl rfl (by kernel_rfl) (by kernel_rfl) (by kernel_rfl) (fun _ _ _ h => h) (by rfl) hHeld ?_
                simp only [Act.put, List.setIfInBounds_toArray, List.set_cons_zero, List.set_cons_succ]
                refine takeN 15 (some 75) rfl rfl (by kernel_rfl) (by kernel_rfl) (by kernel_rfl) (fun _ _ _ h => h) (by rfl) hHeld ?_
                simp only [Act.put, List.setIfInBounds_toArray, List.set_cons_zero, List.set_cons_succ]
                refine takeN 16 (some 76) rfl rfl (by kernel_rfl) (by kernel_rfl) (by kernel_rfl) (fun _ _ _ h => h) (by rfl) hHeld ?_
                simp only [Act.put, List.setIfInBounds_toArray, List.set_cons_zero, List.set_cons_succ]
                refine takeN 17 (some 77) rfl rfl (by kernel_rfl) (by kernel_rfl) (by kernel_rfl) (fun _ _ _ h => h) (by rfl) hHeld ?_
                simp only [Act.put, List.setIfInBounds_toArray, List.set_cons_zero, List.set_cons_succ]
                refine takeY 18 (some 78) rfl rfl (by kernel_rfl) (by kernel_rfl) (by kernel_rfl) (fun _ _ _ h => h) (by rfl) (v := _) (by (intro _ hSw; (try dsimp only at hSw); go_simp; try with_reducible rfl)) hHeld ?_
                simp only [Act.put, List.setIfInBounds_toArray, List.set_cons_zero, List.set_cons_succ]
                refine wpAnyH_done (by kernel_rfl) ?_ _
                clear hHeld
                go_wp2_with fail
                go_meet
                exact ⟨rfl, HD⟩
              have q2 : decide ((ll : Int) ≥ (k : Int)) = true := by simp; omega
              have q3 : decide (k ≤ ll) = true := by simp; omega
              have q4 : decide ((k : Int) ≤ (ll : Int)) = true := by simp; omega
              have hne := meet_err HW6.out.2.1 H13.out ts
              obtain ⟨P, hP⟩ : ∃ P, Ty.put ts s = P := ⟨_, rfl⟩
              obtain ⟨Q, hQ⟩ : ∃ Q, Ty.put ts t = Q := ⟨_, rfl⟩
              obtain ⟨pl, hpl⟩ : ∃ pl, P.ks.length = pl := ⟨_, rfl⟩
              obtain ⟨ql, hql⟩ : ∃ ql, Q.ks.length = ql := ⟨_, rfl⟩
              rw [hP, hQ] at hne
              have hns : Ty.same P Q = false := by cases h : Ty.same P Q with | false => rfl | true => exact absurd (same_iff.1 h) hne
              have CP : Hid (∀ W, Below w0.heap.size w0 W → Calls Try.prog 18 #[.agg #[.int .u8 (s.k : Int), .string (str s.nm), .int .i64 s.n, .slice A sl c], .slice L ll lc] W fun e w' => ∃ A3 c3, e = .returned (.agg #[.int .u8 (P.k : Int), .string (str P.nm), .int .i64 P.n, .slice A3 pl c3]) ∧ MadeF (fun b => b < w.heap.size) W w' P A3 c3) := Lib.hid fun W hW => by
                have hbw : Below w.heap.size w W := HI.out.1.trans (hW.mono HI.out.1.size)
                have h := rput_any (F := fun b => b < w.heap.size) ts L lc s A c W (HI.out.2.1.bel hbw).at_ HI.out.2.1.len HI.out.2.1.cap HI.out.2.1.ok (by have := HSm.out.1.1; omega) (fun b hb => Nat.lt_of_lt_of_le hb hbw.size) (HI.out.2.2.2.1.belB hbw)
                unfold Ty.val at h
                rw [hP, hsl, hpl, HI.out.2.2.2.2.1] at h
                exact h
              have CQ : Hid (∀ W, Below w0.heap.size w0 W → Calls Try.prog 18 #[.agg #[.int .u8 (t.k : Int), .string (str t.nm), .int .i64 t.n, .slice B tl d], .slice L ll lc] W fun e w' => ∃ A3 c3, e = .returned (.agg #[.int .u8 (Q.k : Int), .string (str Q.nm), .int .i64 Q.n, .slice A3 ql c3]) ∧ MadeF (fun b => b < w.heap.size) W w' Q A3 c3) := Lib.hid fun W hW => by
                have hbw : Below w.heap.size w W := HI.out.1.trans (hW.mono HI.out.1.size)
                have h := rput_any (F := fun b => b < w.heap.size) ts L lc t B d W (HI.out.2.2.1.bel hbw).at_ HI.out.2.2.1.len HI.out.2.2.1.cap HI.out.2.2.1.ok (by have := HSm.out.2.1.1; omega) (fun b hb => Nat.lt_of_lt_of_le hb hbw.size) (HI.out.2.2.2.1.belB hbw)
                unfold Ty.val at h
                rw [hQ, htl, hql, HI.out.2.2.2.2.1] at h
                exact h
              have CS : Hid (∀ (W : World) (A2 A3 : Option Addr) (c2 c3 : Nat) (F G : Nat → Prop), Ty.At F W A2 P.ks → pl ≤ c2 → c2 ≤ maxLen → Ty.At G W A3 Q.ks → Calls Try.prog 14 #[.agg #[.int .u8 (P.k : Int), .string (str P.nm), .int .i64 P.n, .slice A2 pl c2], .agg #[.int .u8 (Q.k : Int), .string (str Q.nm), .int .i64 Q.n, .slice A3 ql c3]] W fun e w' => e = .returned (.bool false) ∧ Below W.heap.size W w') := Lib.hid fun W A2 A3 c2 c3 F G k1 k2 k3 k4 => by
                have h := rsame_any P Q A2 c2 A3 c3 W k1 (by rw [hpl]; exact k2) k3 k4
                rw [hns] at h
                unfold Ty.val at h
                rw [hpl, hql] at h
                exact h
              have HPL := Lib.hid hpl
              refine wp_region_held_drew (S := (fun W => W.cell? ⟨w.heap.size, 0, none⟩ = some (.int .u8 (s.k : Int)) ∧ W.cell? ⟨w.heap.size, 1, none⟩ = some (.string (str s.nm)) ∧ W.cell? ⟨w.heap.size, 2, none⟩ = some (.int .i64 s.n) ∧ W.cell? ⟨w.heap.size, 3, none⟩ = some (.slice A sl c) ∧ W.cell? ⟨(w.heap.size + 1), 0, none⟩ = some (.int .u8 (t.k : Int)) ∧ W.cell? ⟨(w.heap.size + 1), 1, none⟩ = some (.string (str t.nm)) ∧ W.cell? ⟨(w.heap.size + 1), 2, none⟩ = some (.int .i64 t.n) ∧ W.cell? ⟨(w.heap.size + 1), 3, none⟩ = some (.slice B tl d))) (by kernel_rfl) ⟨s0i, s1i, s2i, s3i, t0i, t1i, t2i, t3i⟩ (fun hHeld => ?_)
              refine takeY 0 (some 60) rfl rfl (by kernel_rfl) (by kernel_rfl) (by kernel_rfl) (fun _ _ _ h => h) (by rfl) (v := _) (by (intro _ hSw; (try dsimp only at hSw); go_simp; try with_reducible rfl)) hHeld ?_
              simp only [Act.put, List.setIfInBounds_toArray, List.set_cons_zero, List.set_cons_succ]
              refine takeY 1 (some 61) rfl rfl (by kernel_rfl) (by kernel_rfl) (by kernel_rfl) (fun _ _ _ h => h) (by rfl) (v := _) (by (intro _ hSw; (try dsimp only at hSw); go_simp; try with_reducible rfl)) hHeld ?_
              simp only [Act.put, List.setIfInBounds_toArray, List.set_cons_zero, List.set_cons_succ]
              refine takeY 2 (some 62) rfl rfl (by kernel_rfl) (by kernel_rfl) (by kernel_rfl) (fun _ _ _ h => h) (by rfl) (v := _) (by (intro _ hSw; (try dsimp only at hSw); go_simp; try with_reducible rfl)) hHeld ?_
              simp only [Act.put, List.setIfInBounds_toArray, List.set_cons_zero, List.set_cons_succ]
              refine takeY 3 (some 63) rfl rfl (by kernel_rfl) (by kernel_rfl) (by kernel_rfl) (fun _ _ _ h => h) (by rfl) (v := _) (by (intro _ hSw; (try dsimp only at hSw); go_simp; try with_reducible rfl)) hHeld ?_
              simp only [Act.put, List.setIfInBounds_toArray, List.set_cons_zero, List.set_cons_succ]
              refine takeY 4 (some 64) rfl rfl (by kernel_rfl) (by kernel_rfl) (by kernel_rfl) (fun _ _ _ h => h) (by rfl) (v := _) (by (intro _ hSw; (try dsimp only at hSw); go_simp; try with_reducible rfl)) hHeld ?_
              simp only [Act.put, List.setIfInBounds_toArray, List.set_cons_zero, List.set_cons_succ]
              refine takeY 5 (some 65) rfl rfl (by kernel_rfl) (by kernel_rfl) (by kernel_rfl) (fun _ _ _ h => h) (by rfl) (v := _) (by (intro _ hSw; (try dsimp only at hSw); go_simp; try with_reducible rfl)) hHeld ?_
              simp only [Act.put, List.setIfInBounds_toArray, List.set_cons_zero, List.set_cons_succ]
              refine wpAnyH_ready (rs := [6]) (by kernel_rfl) (by simp) ?_
              refine AllReadyH.cons rfl (fun K hK => ?_) AllReadyH.nil
              clear hHeld
              go_simp
              refine hK.out _ _ ⟨s0i, s1i, s2i, s3i, t0i, t1i, t2i, t3i⟩ (fun hHeld => ?_)
              clear hK K
              refine takeY 7 (some 67) rfl rfl (by kernel_rfl) (by kernel_rfl) (by kernel_rfl) (fun _ _ _ h => h) (by rfl) (v := _) (by (intro _ hSw; (try dsimp only at hSw); go_simp; try with_reducible rfl)) hHeld ?_
              simp only [Act.put, List.setIfInBounds_toArray, List.set_cons_zero, List.set_cons_succ]
              refine takeY 8 (some 68) rfl rfl (by kernel_rfl) (by kernel_rfl) (by kernel_rfl) (fun _ _ _ h => h) (by rfl) (v := _) (by (intro _ hSw; (try dsimp only at hSw); go_simp; try with_reducible rfl)) hHeld ?_
              simp only [Act.put, List.setIfInBounds_toArray, List.set_cons_zero, List.set_cons_succ]
              refine takeY 9 (some 69) rfl rfl (by kernel_rfl) (by kernel_rfl) (by kernel_rfl) (fun _ _ _ h => h) (by rfl) (v := _) (by (intro _ hSw; (try dsimp only at hSw); go_simp; try with_reducible rfl)) hHeld ?_
              simp only [Act.put, List.setIfInBounds_toArray, List.set_cons_zero, List.set_cons_succ]
              refine takeY 10 (some 70) rfl rfl (by kernel_rfl) (by kernel_rfl) (by kernel_rfl) (fun _ _ _ h => h) (by rfl) (v := _) (by (intro _ hSw; (try dsimp only at hSw); go_simp; try with_reducible rfl)) hHeld ?_
              simp only [Act.put, List.setIfInBounds_toArray, List.set_cons_zero, List.set_cons_succ]
              refine takeY 11 (some 71) rfl rfl (by kernel_rfl) (by kernel_rfl) (by kernel_rfl) (fun _ _ _ h => h) (by rfl) (v := _) (by (intro _ hSw; (try dsimp only at hSw); go_simp; try with_reducible rfl)) hHeld ?_
              simp only [Act.put, List.setIfInBounds_toArray, List.set_cons_zero, List.set_cons_succ]
              refine takeY 12 (some 72) rfl rfl (by kernel_rfl) (by kernel_rfl) (by kernel_rfl) (fun _ _ _ h => h) (by rfl) (v := _) (by (intro _ hSw; (try dsimp only at hSw); go_simp; try with_reducible rfl)) hHeld ?_
              simp only [Act.put, List.setIfInBounds_toArray, List.set_cons_zero, List.set_cons_succ]
              refine takeY 14 (some 74) rfl rfl (by kernel_rfl) (by kernel_rfl) (by kernel_rfl) (fun _ _ _ h => h) (by rfl) (v := _) (by (intro _ hSw; (try dsimp only at hSw); go_simp; try with_reducible rfl)) hHeld ?_
              simp only [Act.put, List.setIfInBounds_toArray, List.set_cons_zero, List.set_cons_succ]
              refine takeY 15 (some 75) rfl rfl (by kernel_rfl) (by kernel_rfl) (by kernel_rfl) (fun _ _ _ h => h) (by rfl) (v := _) (by (intro _ hSw; (try dsimp only at hSw); go_simp; try with_reducible rfl)) hHeld ?_
              simp only [Act.put, List.setIfInBounds_toArray, List.set_cons_zero, List.set_cons_succ]
              refine wpAnyH_ready (rs := [13]) (by kernel_rfl) (by simp) ?_
              refine AllReadyH.cons rfl (fun K hK => ?_) AllReadyH.nil
              clear hHeld
              go_simp
              go_wp2_with (go_at_call 18; refine Calls.mono (CP.out _ HW9.out.bel.drew) ?_; rintro en wa ⟨A3, c3, rfl, hmd⟩; have HBa := Lib.hid (HW9.out.bel.drew.trans (hmd.bel.mono HW9.out.bel.size)); have HMa := Lib.hid hmd; clear hmd s0i s1i s2i s3i t0i t1i t2i t3i; have bx := HBks.out.below HBa.out HBks.out.lt; have s0j := bx.cell 0; have s1j := bx.cell 1; have s2j := bx.cell 2; have s3j := bx.cell 3; simp only [List.getElem?_toArray, List.getElem?_cons_zero, List.getElem?_cons_succ] at s0j s1j s2j s3j; clear bx; have bx := HBkt.out.below HBa.out HBkt.out.lt; have t0j := bx.cell 0; have t1j := bx.cell 1; have t2j := bx.cell 2; have t3j := bx.cell 3; simp only [List.getElem?_toArray, List.getElem?_cons_zero, List.getElem?_cons_succ] at t0j t1j t2j t3j; clear bx)
              refine hK.out _ _ ⟨s0j, s1j, s2j, s3j, t0j, t1j, t2j, t3j⟩ (fun hHeld => ?_)
              clear hK K
              refine wpAnyH_ready (rs := [16]) (by kernel_rfl) (by simp) ?_
              refine AllReadyH.cons rfl (fun K hK => ?_) AllReadyH.nil
              clear hHeld
              go_simp
              go_wp2_with (go_at_call 18; refine Calls.mono (CQ.out _ HBa.out) ?_; rintro en wb ⟨A4, c4, rfl, hmd⟩; have HMa2 := Lib.hid (HMa.out.at_.bel hmd.bel); have HBb := Lib.hid (HBa.out.trans (hmd.bel.mono HBa.out.size)); have HMb := Lib.hid hmd; clear hmd s0j s1j s2j s3j t0j t1j t2j t3j; have bx := HBks.out.below HBb.out HBks.out.lt; have s0k := bx.cell 0; have s1k := bx.cell 1; have s2k := bx.cell 2; have s3k := bx.cell 3; simp only [List.getElem?_toArray, List.getElem?_cons_zero, List.getElem?_cons_succ] at s0k s1k s2k s3k; clear bx; have bx := HBkt.out.below HBb.out HBkt.out.lt; have t0k := bx.cell 0; have t1k := bx.cell 1; have t2k := bx.cell 2; have t3k := bx.cell 3; simp only [List.getElem?_toArray, List.getElem?_cons_zero, List.getElem?_cons_succ] at t0k t1k t2k t3k; clear bx)
              refine hK.out _ _ ⟨s0k, s1k, s2k, s3k, t0k, t1k, t2k, t3k⟩ (fun hHeld => ?_)
              clear hK K
              refine wpAnyH_ready (rs := [17]) (by kernel_rfl) (by simp) ?_
              refine AllReadyH.cons rfl (fun K hK => ?_) AllReadyH.nil
              clear hHeld
              go_simp
              go_wp2_with (go_at_call 14; refine Calls.mono (CS.out _ A3 A4 c3 c4 _ _ HMa2.out (by rw [← HPL.out]; exact HMa.out.len) HMa.out.cap HMb.out.at_) ?_; rintro en wd ⟨rfl, hb⟩; have HBd := Lib.hid (HBb.out.trans (hb.mono HBb.out.size)); clear hb s0k s1k s2k s3k t0k t1k t2k t3k; have bx := HBks.out.below HBd.out HBks.out.lt; have s0l := bx.cell 0; have s1l := bx.cell 1; have s2l := bx.cell 2; have s3l := bx.cell 3; simp only [List.getElem?_toArray, List.getElem?_cons_zero, List.getElem?_cons_succ] at s0l s1l s2l s3l; clear bx; have bx := HBkt.out.below HBd.out HBkt.out.lt; have t0l := bx.cell 0; have t1l := bx.cell 1; have t2l := bx.cell 2; have t3l := bx.cell 3; simp only [List.getElem?_toArray, List.getElem?_cons_zero, List.getElem?_cons_succ] at t0l t1l t2l t3l; clear bx)
              refine hK.out _ _ ⟨s0l, s1l, s2l, s3l, t0l, t1l, t2l, t3l⟩ (fun hHeld => ?_)
              clear hK K
              refine takeY 18 (some 78) rfl rfl (by kernel_rfl) (by kernel_rfl) (by kernel_rfl) (fun _ _ _ h => h) (by rfl) (v := _) (by (intro _ hSw; (try dsimp only at hSw); go_simp; try with_reducible rfl)) hHeld ?_
              simp only [Act.put, List.setIfInBounds_toArray, List.set_cons_zero, List.set_cons_succ]
              refine wpAnyH_done (by kernel_rfl) ?_ _
              clear hHeld
              go_wp2_with fail
              go_meet
              exact ⟨rfl, HBd⟩
            case rest =>
              obtain ⟨rfl, hX⟩ := hcut
              clear s0i s1i s2i s3i t0i t1i t2i t3i
              go_wp2_with (go_at_call 9; refine (HWk.out _).mono ?_; rintro e w2 ⟨rfl, hb⟩; have HB2 := Lib.hid (hX.out.trans (hb.mono hX.out.size)); clear hb)
              go_ret
              exact ⟨rfl, HI.out.1.trans (HB2.out.mono HI.out.1.size)⟩
          have q0 : ((e : Int) != 0) = false := by simp [he]
          obtain ⟨hgs, hgt, heq, hng, _⟩ := meet_ok (Slv.start k) (he ▸ HW6.out.2.1 : UniT k s t [] tvar 0 l1 S1)
          have HG := Lib.hid (And.intro hgs (And.intro hgt (And.intro heq hng)))
          obtain ⟨ml, hml⟩ : ∃ ml, l1.length = ml := ⟨_, rfl⟩
          have HM : Hid (∀ (W : World) (vt' : Value), BM W g k l1 vb vt' → Calls Try.prog 21 #[.pointer (some ⟨g, 0, none⟩)] W fun e w' => e = .returned (.int .i64 (ml : Int)) ∧ w' = W) := Lib.hid fun W vt' h => by rw [← hml]; exact mark_any h
          obtain ⟨P, hP⟩ : ∃ P, applyT k S1 s = P := ⟨_, rfl⟩
          obtain ⟨pl, hpl⟩ : ∃ pl, P.ks.length = pl := ⟨_, rfl⟩
          have hP2 : applyT k S1 t = P := by rw [← hP]; exact (apply_same hgs hgt heq).symm
          have CA2 : Hid (∀ (W : World) (vt' : Value), BW w0 W g k l1 vb vt' → Calls Try.prog 22 #[.pointer (some ⟨g, 0, none⟩), .agg #[.int .u8 (s.k : Int), .string (str s.nm), .int .i64 s.n, .slice A sl c]] W fun en w' => ∃ A2 c2, en = .returned (.agg #[.int .u8 (P.k : Int), .string (str P.nm), .int .i64 P.n, .slice A2 pl c2]) ∧ Made W w' P A2 c2) := Lib.hid fun W vt' hW => by
            have h := CA.out W l1 S1 vt' hW HW6.out.2.2
            rw [hP] at h
            unfold Ty.val at h
            rw [hpl] at h
            exact h
          have CB2 : Hid (∀ (W : World) (vt' : Value), BW w0 W g k l1 vb vt' → Calls Try.prog 22 #[.pointer (some ⟨g, 0, none⟩), .agg #[.int .u8 (t.k : Int), .string (str t.nm), .int .i64 t.n, .slice B tl d]] W fun en w' => ∃ A2 c2, en = .returned (.agg #[.int .u8 (P.k : Int), .string (str P.nm), .int .i64 P.n, .slice A2 pl c2]) ∧ Made W w' P A2 c2) := Lib.hid fun W vt' hW => by
            have h := CB.out W l1 S1 vt' hW HW6.out.2.2
            rw [hP2] at h
            unfold Ty.val at h
            rw [hpl] at h
            exact h
          have CS : Hid (∀ (W : World) (A2 A3 : Option Addr) (c2 c3 : Nat) (F G : Nat → Prop), Ty.At F W A2 P.ks → pl ≤ c2 → c2 ≤ maxLen → Ty.At G W A3 P.ks → Calls Try.prog 14 #[.agg #[.int .u8 (P.k : Int), .string (str P.nm), .int .i64 P.n, .slice A2 pl c2], .agg #[.int .u8 (P.k : Int), .string (str P.nm), .int .i64 P.n, .slice A3 pl c3]] W fun e w' => e = .returned (.bool true) ∧ Below W.heap.size W w') := Lib.hid fun W A2 A3 c2 c3 F G k1 k2 k3 k4 => by
            have h := rsame_any P P A2 c2 A3 c3 W k1 (by rw [hpl]; exact k2) k3 k4
            rw [same_refl] at h
            unfold Ty.val at h
            rw [hpl] at h
            exact h
          have HPL := Lib.hid hpl
          have CU2 : Hid (∀ (W : World) (vt' : Value), BW w0 W g k l1 vb vt' → Calls Try.prog 20 #[.pointer (some ⟨g, 0, none⟩), .agg #[.int .u8 (s.k : Int), .string (str s.nm), .int .i64 s.n, .slice A sl c], .agg #[.int .u8 (t.k : Int), .string (str t.nm), .int .i64 t.n, .slice B tl d]] W fun en w' => en = .returned (.int .i64 0) ∧ ∃ vt2, BM w' g k l1 vb vt2 ∧ Go W g vb vt' w' vb vt2) := Lib.hid fun W vt' hW => by
            have h := Unify_any HW6.out.2.2 s t A B c d (hW.old HT0.out.1) (hW.old HT0.out.2) hW.bm
            unfold Ty.val at h
            rw [hsl, htl] at h
            refine h.mono ?_
            rintro en w' ⟨e2, l2, S2, vt2, k1, k2, k3, k4, k5⟩
            obtain ⟨rfl, rfl, rfl⟩ := meet_again HW6.out.2.2 HG.out.1 HG.out.2.1 HG.out.2.2.1 HG.out.2.2.2 k2
            exact ⟨k1, vt2, k4, k5⟩
          have CU3 : Hid (∀ (W : World) (vt' : Value), BW w0 W g k l1 vb vt' → Calls Try.prog 20 #[.pointer (some ⟨g, 0, none⟩), .agg #[.int .u8 (t.k : Int), .string (str t.nm), .int .i64 t.n, .slice B tl d], .agg #[.int .u8 (s.k : Int), .string (str s.nm), .int .i64 s.n, .slice A sl c]] W fun en w' => en = .returned (.int .i64 0) ∧ ∃ vt2, BM w' g k l1 vb vt2 ∧ Go W g vb vt' w' vb vt2) := Lib.hid fun W vt' hW => by
            have h := Unify_any HW6.out.2.2 t s B A d c (hW.old HT0.out.2) (hW.old HT0.out.1) hW.bm
            unfold Ty.val at h
            rw [htl, hsl] at h
            refine h.mono ?_
            rintro en w' ⟨e2, l2, S2, vt2, k1, k2, k3, k4, k5⟩
            obtain ⟨rfl, rfl, rfl⟩ := meet_again HW6.out.2.2 HG.out.2.1 HG.out.1 HG.out.2.2.1.symm (by rw [← HG.out.2.2.1]; exact HG.out.2.2.2) k2
            exact ⟨k1, vt2, k4, k5⟩
          have hbm : ((ml : Int) != (ml : Int)) = false := by simp
          have hbm2 : ((ml : Int) == (ml : Int)) = true := by simp
          clear hgs hgt heq hng hml hP hP2 hpl hsl htl he CA CB
          go_upto_region 17 with (go_at_call 21; refine (HM.out _ _ HW6.out.1.bm).mono ?_; rintro en w7 ⟨rfl, rfl⟩)
          have bx := HBks.out.below HW6.out.1.bel HBks.out.lt
          have s0g := bx.cell 0
          have s1g := bx.cell 1
          have s2g := bx.cell 2
          have s3g := bx.cell 3
          simp only [List.getElem?_toArray, List.getElem?_cons_zero, List.getElem?_cons_succ] at s0g s1g s2g s3g
          clear bx
          have bx := HBkt.out.below HW6.out.1.bel HBkt.out.lt
          have t0g := bx.cell 0
          have t1g := bx.cell 1
          have t2g := bx.cell 2
          have t3g := bx.cell 3
          simp only [List.getElem?_toArray, List.getElem?_cons_zero, List.getElem?_cons_succ] at t0g t1g t2g t3g
          clear bx
          have HW7 := Lib.hid (HW6.out.1.bel' (Below.drew (Below.refl _ _)))
          refine wp_region_held_drew (S := (fun W => W.cell? ⟨w.heap.size, 0, none⟩ = some (.int .u8 (s.k : Int)) ∧ W.cell? ⟨w.heap.size, 1, none⟩ = some (.string (str s.nm)) ∧ W.cell? ⟨w.heap.size, 2, none⟩ = some (.int .i64 s.n) ∧ W.cell? ⟨w.heap.size, 3, none⟩ = some (.slice A sl c) ∧ W.cell? ⟨(w.heap.size + 1), 0, none⟩ = some (.int .u8 (t.k : Int)) ∧ W.cell? ⟨(w.heap.size + 1), 1, none⟩ = some (.string (str t.nm)) ∧ W.cell? ⟨(w.heap.size + 1), 2, none⟩ = some (.int .i64 t.n) ∧ W.cell? ⟨(w.heap.size + 1), 3, none⟩ = some (.slice B tl d))) (by kernel_rfl) ⟨s0g, s1g, s2g, s3g, t0g, t1g, t2g, t3g⟩ (fun hHeld => ?_)
          refine takeY 0 (some 82) rfl rfl (by kernel_rfl) (by kernel_rfl) (by kernel_rfl) (fun _ _ _ h => h) (by rfl) (v := _) (by (intro _ hSw; (try dsimp only at hSw); go_simp; try with_reducible rfl)) hHeld ?_
          simp only [Act.put, List.setIfInBounds_toArray, List.set_cons_zero, List.set_cons_succ]
          refine takeY 1 (some 83) rfl rfl (by kernel_rfl) (by kernel_rfl) (by kernel_rfl) (fun _ _ _ h => h) (by rfl) (v := _) (by (intro _ hSw; (try dsimp only at hSw); go_simp; try with_reducible rfl)) hHeld ?_
          simp only [Act.put, List.setIfInBounds_toArray, List.set_cons_zero, List.set_cons_succ]
          refine takeY 3 (some 85) rfl rfl (by kernel_rfl) (by kernel_rfl) (by kernel_rfl) (fun _ _ _ h => h) (by rfl) (v := _) (by (intro _ hSw; (try dsimp only at hSw); go_simp; try with_reducible rfl)) hHeld ?_
          simp only [Act.put, List.setIfInBounds_toArray, List.set_cons_zero, List.set_cons_succ]
          refine takeY 4 (some 86) rfl rfl (by kernel_rfl) (by kernel_rfl) (by kernel_rfl) (fun _ _ _ h => h) (by rfl) (v := _) (by (intro _ hSw; (try dsimp only at hSw); go_simp; try with_reducible rfl)) hHeld ?_
          simp only [Act.put, List.setIfInBounds_toArray, List.set_cons_zero, List.set_cons_succ]
          refine wpAnyH_ready (rs := [2]) (by kernel_rfl) (by simp) ?_
          refine AllReadyH.cons rfl (fun K hK => ?_) AllReadyH.nil
          clear hHeld
          go_simp
          go_wp2_with (go_at_call 22; refine Calls.mono (CA2.out _ _ HW7.out) ?_; rintro en w8 ⟨A2, c2, rfl, hmd⟩; have HW8 := Lib.hid (HW7.out.bel' hmd.bel); have HMa := Lib.hid hmd; clear hmd s0g s1g s2g s3g t0g t1g t2g t3g; have bx := HBks.out.below HW8.out.bel HBks.out.lt; have s0h := bx.cell 0; have s1h := bx.cell 1; have s2h := bx.cell 2; have s3h := bx.cell 3; simp only [List.getElem?_toArray, List.getElem?_cons_zero, List.getElem?_cons_succ] at s0h s1h s2h s3h; clear bx; have bx := HBkt.out.below HW8.out.bel HBkt.out.lt; have t0h := bx.cell 0; have t1h := bx.cell 1; have t2h := bx.cell 2; have t3h := bx.cell 3; simp only [List.getElem?_toArray, List.getElem?_cons_zero, List.getElem?_cons_succ] at t0h t1h t2h t3h; clear bx)
          refine hK.out _ _ ⟨s0h, s1h, s2h, s3h, t0h, t1h, t2h, t3h⟩ (fun hHeld => ?_)
          clear hK K
          refine wpAnyH_ready (rs := [5]) (by kernel_rfl) (by simp) ?_
          refine AllReadyH.cons rfl (fun K hK => ?_) AllReadyH.nil
          clear hHeld
          go_simp
          go_wp2_with (go_at_call 22; refine Calls.mono (CB2.out _ _ HW8.out) ?_; rintro en w9 ⟨A3, c3, rfl, hmd⟩; have HMa2 := Lib.hid (HMa.out.at_.bel hmd.bel); have HW9 := Lib.hid (HW8.out.bel' hmd.bel); have HMb := Lib.hid hmd; clear hmd s0h s1h s2h s3h t0h t1h t2h t3h; have bx := HBks.out.below HW9.out.bel HBks.out.lt; have s0i := bx.cell 0; have s1i := bx.cell 1; have s2i := bx.cell 2; have s3i := bx.cell 3; simp only [List.getElem?_toArray, List.getElem?_cons_zero, List.getElem?_cons_succ] at s0i s1i s2i s3i; clear bx; have bx := HBkt.out.below HW9.out.bel HBkt.out.lt; have t0i := bx.cell 0; have t1i := bx.cell 1; have t2i := bx.cell 2; have t3i := bx.cell 3; simp only [List.getElem?_toArray, List.getElem?_cons_zero, List.getElem?_cons_succ] at t0i t1i t2i t3i; clear bx)
          refine hK.out _ _ ⟨s0i, s1i, s2i, s3i, t0i, t1i, t2i, t3i⟩ (fun hHeld => ?_)
          clear hK K
          refine wpAnyH_ready (rs := [6]) (by kernel_rfl) (by simp) ?_
          refine AllReadyH.cons rfl (fun K hK => ?_) AllReadyH.nil
          clear hHeld
          go_simp
          go_wp2_with (go_at_call 14; refine Calls.mono (CS.out _ A2 A3 c2 c3 _ _ HMa2.out (by rw [← HPL.out]; exact HMa.out.len) HMa.out.cap HMb.out.at_) ?_; rintro en wa ⟨rfl, hb⟩; have HWa := Lib.hid (HW9.out.bel' hb); clear hb s0i s1i s2i s3i t0i t1i t2i t3i; have bx := HBks.out.below HWa.out.bel HBks.out.lt; have s0j := bx.cell 0; have s1j := bx.cell 1; have s2j := bx.cell 2; have s3j := bx.cell 3; simp only [List.getElem?_toArray, List.getElem?_cons_zero, List.getElem?_cons_succ] at s0j s1j s2j s3j; clear bx; have bx := HBkt.out.below HWa.out.bel HBkt.out.lt; have t0j := bx.cell 0; have t1j := bx.cell 1; have t2j := bx.cell 2; have t3j := bx.cell 3; simp only [List.getElem?_toArray, List.getElem?_cons_zero, List.getElem?_cons_succ] at t0j t1j t2j t3j; clear bx)
          refine hK.out _ _ ⟨s0j, s1j, s2j, s3j, t0j, t1j, t2j, t3j⟩ (fun hHeld => ?_)
          clear hK K
          refine takeY 7 (some 89) rfl rfl (by kernel_rfl) (by kernel_rfl) (by kernel_rfl) (fun _ _ _ h => h) (by rfl) (v := _) (by (intro _ hSw; (try dsimp only at hSw); go_simp; try with_reducible rfl)) hHeld ?_
          simp only [Act.put, List.setIfInBounds_toArray, List.set_cons_zero, List.set_cons_succ]
          refine takeY 8 (some 90) rfl rfl (by kernel_rfl) (by kernel_rfl) (by kernel_rfl) (fun _ _ _ h => h) (by rfl) (v := _) (by (intro _ hSw; (try dsimp only at hSw); go_simp; try with_reducible rfl)) hHeld ?_
          simp only [Act.put, List.setIfInBounds_toArray, List.set_cons_zero, List.set_cons_succ]
          refine takeY 9 (some 91) rfl rfl (by kernel_rfl) (by kernel_rfl) (by kernel_rfl) (fun _ _ _ h => h) (by rfl) (v := _) (by (intro _ hSw; (try dsimp only at hSw); go_simp; try with_reducible rfl)) hHeld ?_
          simp only [Act.put, List.setIfInBounds_toArray, List.set_cons_zero, List.set_cons_succ]
          refine takeY 10 (some 92) rfl rfl (by kernel_rfl) (by kernel_rfl) (by kernel_rfl) (fun _ _ _ h => h) (by rfl) (v := _) (by (intro _ hSw; (try dsimp only at hSw); go_simp; try with_reducible rfl)) hHeld ?_
          simp only [Act.put, List.setIfInBounds_toArray, List.set_cons_zero, List.set_cons_succ]
          refine takeY 11 (some 93) rfl rfl (by kernel_rfl) (by kernel_rfl) (by kernel_rfl) (fun _ _ _ h => h) (by rfl) (v := _) (by (intro _ hSw; (try dsimp only at hSw); go_simp; try with_reducible rfl)) hHeld ?_
          simp only [Act.put, List.setIfInBounds_toArray, List.set_cons_zero, List.set_cons_succ]
          refine wpAnyH_ready (rs := [12]) (by kernel_rfl) (by simp) ?_
          refine AllReadyH.cons rfl (fun K hK => ?_) AllReadyH.nil
          clear hHeld
          go_simp
          go_wp2_with (go_at_call 20; refine Calls.mono (CU2.out _ _ HWa.out) ?_; rintro en wb ⟨rfl, vt2, k4, k5⟩; have HWb := Lib.hid (HWa.out.step k4 k5); clear k4 k5 s0j s1j s2j s3j t0j t1j t2j t3j; have bx := HBks.out.below HWb.out.bel HBks.out.lt; have s0k := bx.cell 0; have s1k := bx.cell 1; have s2k := bx.cell 2; have s3k := bx.cell 3; simp only [List.getElem?_toArray, List.getElem?_cons_zero, List.getElem?_cons_succ] at s0k s1k s2k s3k; clear bx; have bx := HBkt.out.below HWb.out.bel HBkt.out.lt; have t0k := bx.cell 0; have t1k := bx.cell 1; have t2k := bx.cell 2; have t3k := bx.cell 3; simp only [List.getElem?_toArray, List.getElem?_cons_zero, List.getElem?_cons_succ] at t0k t1k t2k t3k; clear bx)
          refine hK.out _ _ ⟨s0k, s1k, s2k, s3k, t0k, t1k, t2k, t3k⟩ (fun hHeld => ?_)
          clear hK K
          refine takeY 13 (some 95) rfl rfl (by kernel_rfl) (by kernel_rfl) (by kernel_rfl) (fun _ _ _ h => h) (by rfl) (v := _) (by (intro _ hSw; (try dsimp only at hSw); go_simp; try with_reducible rfl)) hHeld ?_
          simp only [Act.put, List.setIfInBounds_toArray, List.set_cons_zero, List.set_cons_succ]
          refine takeY 14 (some 96) rfl rfl (by kernel_rfl) (by kernel_rfl) (by kernel_rfl) (fun _ _ _ h => h) (by rfl) (v := _) (by (intro _ hSw; (try dsimp only at hSw); go_simp; try with_reducible rfl)) hHeld ?_
          simp only [Act.put, List.setIfInBounds_toArray, List.set_cons_zero, List.set_cons_succ]
          refine takeY 15 (some 97) rfl rfl (by kernel_rfl) (by kernel_rfl) (by kernel_rfl) (fun _ _ _ h => h) (by rfl) (v := _) (by (intro _ hSw; (try dsimp only at hSw); go_simp; try with_reducible rfl)) hHeld ?_
          simp only [Act.put, List.setIfInBounds_toArray, List.set_cons_zero, List.set_cons_succ]
          refine takeY 16 (some 98) rfl rfl (by kernel_rfl) (by kernel_rfl) (by kernel_rfl) (fun _ _ _ h => h) (by rfl) (v := _) (by (intro _ hSw; (try dsimp only at hSw); go_simp; try with_reducible rfl)) hHeld ?_
          simp only [Act.put, List.setIfInBounds_toArray, List.set_cons_zero, List.set_cons_succ]
          refine takeY 18 (some 100) rfl rfl (by kernel_rfl) (by kernel_rfl) (by kernel_rfl) (fun _ _ _ h => h) (by rfl) (v := _) (by (intro _ hSw; (try dsimp only at hSw); go_simp; try with_reducible rfl)) hHeld ?_
          simp only [Act.put, List.setIfInBounds_toArray, List.set_cons_zero, List.set_cons_succ]
          refine wpAnyH_ready (rs := [17]) (by kernel_rfl) (by simp) ?_
          refine AllReadyH.cons rfl (fun K hK => ?_) AllReadyH.nil
          clear hHeld
          go_simp
          go_wp2_with (go_at_call 21; refine Calls.mono (HM.out _ _ HWb.out.bm) ?_; rintro en wd ⟨rfl, rfl⟩)
          refine hK.out _ _ ⟨s0k, s1k, s2k, s3k, t0k, t1k, t2k, t3k⟩ (fun hHeld => ?_)
          clear hK K
          refine takeY 19 (some 101) rfl rfl (by kernel_rfl) (by kernel_rfl) (by kernel_rfl) (fun _ _ _ h => h) (by rfl) (v := _) (by (intro _ hSw; (try dsimp only at hSw); go_simp; try with_reducible rfl)) hHeld ?_
          simp only [Act.put, List.setIfInBounds_toArray, List.set_cons_zero, List.set_cons_succ]
          refine takeY 20 (some 102) rfl rfl (by kernel_rfl) (by kernel_rfl) (by kernel_rfl) (fun _ _ _ h => h) (by rfl) (v := _) (by (intro _ hSw; (try dsimp only at hSw); go_simp; try with_reducible rfl)) hHeld ?_
          simp only [Act.put, List.setIfInBounds_toArray, List.set_cons_zero, List.set_cons_succ]
          refine wpAnyH_done (by kernel_rfl) ?_ _
          clear hHeld CA2 CB2 CS CU2 HMa HMa2 HMb HW8 HW9 HWa HW7
          go_wp2_with (first | (go_at_call 20; refine (CU3.out _ _ HWb.out).mono ?_; rintro en we ⟨rfl, vt3, k4, k5⟩; have HWe := Lib.hid (HWb.out.step k4 k5); clear k4 k5 CU3 s0k s1k s2k s3k t0k t1k t2k t3k) | (go_at_call 21; refine (HM.out _ _ HWe.out.bm).mono ?_; rintro en wf ⟨rfl, rfl⟩) | (go_at_call 9; refine (HWk.out _).mono ?_; rintro en wh ⟨rfl, hb⟩; have HBz := Lib.hid (HWe.out.bel.trans (hb.mono HWe.out.bel.size)); clear hb))
          go_ret
          exact ⟨rfl, HI.out.1.trans (HBz.out.mono HI.out.1.size)⟩
end Go.Proofs.Ytndhojnfjlkojaa
