/- types: TypesBest. -/
import Derived.Test.YtndhojnfjlkojaaVa
import Derived.Test.YtndhojnfjlkojaaWk
import Derived.Test.YtndhojnfjlkojaaOp
import Derived.Test.YtndhojnfjlkojaaMm
import Derived.Test.YtndhojnfjlkojaaN
import Derived.Test.YtndhojnfjlkojaaTake
namespace Go.Proofs.Ytndhojnfjlkojaa
open Go.RowKit
set_option linter.unusedVariables false
set_option linter.unusedSimpArgs false
attribute [local go_sem] Oper.semAt_some
open Ty
set_option maxRecDepth 20000 in
set_option maxHeartbeats 8000000 in
theorem best_law (m : Nat) (hm : m < 256) (s t : Ty) (A : Option Addr) (c : Nat) (B : Option Addr) (d : Nat) (L : Option Addr) (ll lc : Nat) (ts : List Ty) (w : World) (hs : Tb w.heap.size w s A c) (ht : Tb w.heap.size w t B d) (hll : ts.length = ll) (hlc : ll ≤ lc) (hlm : lc ≤ maxLen) (hL : Ty.At (fun b => b < w.heap.size) w L ts) :
    Calls Try.prog 5 #[.int .u8 (m : Int), s.val A c, t.val B d, .slice L ll lc] w fun e w' => e = .returned (.bool true) ∧ Below w.heap.size w w' := by
  obtain ⟨sl, hsl⟩ : ∃ sl, s.ks.length = sl := ⟨_, rfl⟩
  obtain ⟨tl, htl⟩ : ∃ tl, t.ks.length = tl := ⟨_, rfl⟩
  obtain ⟨w0, hw0⟩ : ∃ w0, (w.alloc (.cells #[.int .u8 (s.k : Int), .string (str s.nm), .int .i64 s.n, .slice A sl c] 24)).alloc (.cells #[.int .u8 (t.k : Int), .string (str t.nm), .int .i64 t.n, .slice B tl d] 24) = w0 := ⟨_, rfl⟩
  have hb0 : Below w.heap.size w w0 := by rw [← hw0]; exact ((Below.refl _ _).alloc (Nat.le_refl _) _).alloc (by simp) _
  have hS0 : Blk w0 w.heap.size 24 #[.int .u8 (s.k : Int), .string (str s.nm), .int .i64 s.n, .slice A sl c] := by rw [← hw0]; exact (Blk.new _ _ _).alloc _
  have hT0 : Blk w0 (w.heap.size + 1) 24 #[.int .u8 (t.k : Int), .string (str t.nm), .int .i64 t.n, .slice B tl d] := by
    have := Blk.new (w.alloc (.cells #[.int .u8 (s.k : Int), .string (str s.nm), .int .i64 s.n, .slice A sl c] 24)) 24 #[.int .u8 (t.k : Int), .string (str t.nm), .int .i64 t.n, .slice B tl d]
    rw [World.size_alloc] at this
    rw [← hw0]; exact this
  have hTb : ∀ (x : Ty) (Ax : Option Addr) (cx : Nat), Tb w.heap.size w x Ax cx → ∀ W, Below w0.heap.size w0 W → Tb W.heap.size W x Ax cx := fun x Ax cx hx W hW => ⟨((hx.bel (hb0.trans (hW.mono hb0.size))).at_).now, hx.len, hx.cap, hx.ok⟩
  have hVs : ∀ W, Below w0.heap.size w0 W → Calls Try.prog 8 #[s.val A c] W fun e w' => ∃ b, e = .returned (.bool b) ∧ (b = false → small s) ∧ Below W.heap.size W w' := fun W hW => vast_any s A c W (hTb s A c hs W hW)
  have hVt : ∀ W, Below w0.heap.size w0 W → Calls Try.prog 8 #[t.val B d] W fun e w' => ∃ b, e = .returned (.bool b) ∧ (b = false → small t) ∧ Below W.heap.size W w' := fun W hW => vast_any t B d W (hTb t B d ht W hW)
  unfold Ty.val at hVs hVt ⊢
  simp only [hsl] at hVs
  simp only [htl] at hVt
  rw [hsl, htl]
  have HVs := Lib.hid hVs
  have HVt := Lib.hid hVt
  have HBks := Lib.hid hS0
  have HBkt := Lib.hid hT0
  have HB0 := Lib.hid (Below.refl w0.heap.size w0)
  have HI := Lib.hid (And.intro hb0 (And.intro hs (And.intro ht (And.intro hL (And.intro hll (And.intro hsl htl))))))
  have HTb := Lib.hid hTb
  have HWk := Lib.hid works_any
  have hmx : ll ≤ 9223372036854775807 := by unfold maxLen at hlm; omega
  clear hb0 hS0 hT0 hTb hVs hVt hs ht hL hll hsl htl
  obtain ⟨k, hk⟩ : ∃ k, m % 12 = k := ⟨_, rfl⟩
  have hk2 : k < 12 := by omega
  have hmod : (m : Int).tmod 12 = (k : Int) := by rw [Int.tmod_eq_emod_of_nonneg (by omega)]; omega
  have HBo := Lib.hid fun W => books_any m hm W
  rw [hk] at HBo
  have HK := Lib.hid hk
  clear hk
  have bx := HBks.out.below HB0.out HBks.out.lt
  have s0a := bx.cell 0
  have s1a := bx.cell 1
  have s2a := bx.cell 2
  have s3a := bx.cell 3
  simp only [List.getElem?_toArray, List.getElem?_cons_zero, List.getElem?_cons_succ] at s0a s1a s2a s3a
  clear bx
  have bx := HBkt.out.below HB0.out HBkt.out.lt
  have t0a := bx.cell 0
  have t1a := bx.cell 1
  have t2a := bx.cell 2
  have t3a := bx.cell 3
  simp only [List.getElem?_toArray, List.getElem?_cons_zero, List.getElem?_cons_succ] at t0a t1a t2a t3a
  clear bx
  go_enter Try.func5, Try.ntmps5
  go_upto_region 1 with fail
  (try rw [hw0])
  clear hw0
  go_upto_region 2 with fail
  go_cut [34] from 18 to 34 (fun s21 wx => ∃ b : Bool, s21 = .bool b ∧ Hid (Below w0.heap.size w0 wx ∧ (b = false → small s ∧ small t ∧ ll ≤ 12 ∧ k ≤ ll)))
  case first =>
    rcases (by omega : 12 < ll ∨ (ll ≤ 12 ∧ ll < k) ∨ (ll ≤ 12 ∧ k ≤ ll)) with hlen | hlen | hlen
    · have q1 : decide ((ll : Int) > 12) = true := by simp; omega
      have q2 : decide (12 < ll) = true := by simp; omega
      go_wp2_with (first | (go_at_call_of 8 (Value.string (str s.nm)); refine (HVs.out _ HB0.out).mono ?_; rintro e w1 ⟨vs, rfl, hvs, hb⟩; have HB1 := Lib.hid (HB0.out.trans (hb.mono HB0.out.size)); have Hvs := Lib.hid hvs; clear hb hvs; clear s0a s1a s2a s3a t0a t1a t2a t3a; have bx := HBks.out.below HB1.out HBks.out.lt; have s0b := bx.cell 0; have s1b := bx.cell 1; have s2b := bx.cell 2; have s3b := bx.cell 3; simp only [List.getElem?_toArray, List.getElem?_cons_zero, List.getElem?_cons_succ] at s0b s1b s2b s3b; clear bx; have bx := HBkt.out.below HB1.out HBkt.out.lt; have t0b := bx.cell 0; have t1b := bx.cell 1; have t2b := bx.cell 2; have t3b := bx.cell 3; simp only [List.getElem?_toArray, List.getElem?_cons_zero, List.getElem?_cons_succ] at t0b t1b t2b t3b; clear bx; cases vs) | (go_at_call_of 8 (Value.string (str t.nm)); refine (HVt.out _ HB1.out).mono ?_; rintro e w2 ⟨vt, rfl, hvt, hb⟩; have HB2 := Lib.hid (HB1.out.trans (hb.mono HB1.out.size)); have Hvt := Lib.hid hvt; clear hb hvt; clear s0b s1b s2b s3b t0b t1b t2b t3b; cases vt))
      all_goals
        go_meet
        first | exact ⟨true, rfl, Lib.hid ⟨HB2.out, fun h => by cases h⟩⟩ | exact ⟨true, rfl, Lib.hid ⟨HB1.out, fun h => by cases h⟩⟩
    · have q1 : decide ((ll : Int) > 12) = false := by simp; omega
      have q2 : decide (12 < ll) = false := by simp; omega
      have q5 : decide ((ll : Int) < (k : Int)) = true := by simp; omega
      have q6 : decide (ll < k) = true := by simp; omega
      go_wp2_with (first | (go_at_call_of 8 (Value.string (str s.nm)); refine (HVs.out _ HB0.out).mono ?_; rintro e w1 ⟨vs, rfl, hvs, hb⟩; have HB1 := Lib.hid (HB0.out.trans (hb.mono HB0.out.size)); have Hvs := Lib.hid hvs; clear hb hvs; clear s0a s1a s2a s3a t0a t1a t2a t3a; have bx := HBks.out.below HB1.out HBks.out.lt; have s0b := bx.cell 0; have s1b := bx.cell 1; have s2b := bx.cell 2; have s3b := bx.cell 3; simp only [List.getElem?_toArray, List.getElem?_cons_zero, List.getElem?_cons_succ] at s0b s1b s2b s3b; clear bx; have bx := HBkt.out.below HB1.out HBkt.out.lt; have t0b := bx.cell 0; have t1b := bx.cell 1; have t2b := bx.cell 2; have t3b := bx.cell 3; simp only [List.getElem?_toArray, List.getElem?_cons_zero, List.getElem?_cons_succ] at t0b t1b t2b t3b; clear bx; cases vs) | (go_at_call_of 8 (Value.string (str t.nm)); refine (HVt.out _ HB1.out).mono ?_; rintro e w2 ⟨vt, rfl, hvt, hb⟩; have HB2 := Lib.hid (HB1.out.trans (hb.mono HB1.out.size)); have Hvt := Lib.hid hvt; clear hb hvt; clear s0b s1b s2b s3b t0b t1b t2b t3b; cases vt))
      all_goals
        go_meet
        first | exact ⟨true, rfl, Lib.hid ⟨HB2.out, fun h => by cases h⟩⟩ | exact ⟨true, rfl, Lib.hid ⟨HB1.out, fun h => by cases h⟩⟩
    · have q1 : decide ((ll : Int) > 12) = false := by simp; omega
      have q2 : decide (12 < ll) = false := by simp; omega
      have q5 : decide ((ll : Int) < (k : Int)) = false := by simp; omega
      have q6 : decide (ll < k) = false := by simp; omega
      go_wp2_with (first | (go_at_call_of 8 (Value.string (str s.nm)); refine (HVs.out _ HB0.out).mono ?_; rintro e w1 ⟨vs, rfl, hvs, hb⟩; have HB1 := Lib.hid (HB0.out.trans (hb.mono HB0.out.size)); have Hvs := Lib.hid hvs; clear hb hvs; clear s0a s1a s2a s3a t0a t1a t2a t3a; have bx := HBks.out.below HB1.out HBks.out.lt; have s0b := bx.cell 0; have s1b := bx.cell 1; have s2b := bx.cell 2; have s3b := bx.cell 3; simp only [List.getElem?_toArray, List.getElem?_cons_zero, List.getElem?_cons_succ] at s0b s1b s2b s3b; clear bx; have bx := HBkt.out.below HB1.out HBkt.out.lt; have t0b := bx.cell 0; have t1b := bx.cell 1; have t2b := bx.cell 2; have t3b := bx.cell 3; simp only [List.getElem?_toArray, List.getElem?_cons_zero, List.getElem?_cons_succ] at t0b t1b t2b t3b; clear bx; cases vs) | (go_at_call_of 8 (Value.string (str t.nm)); refine (HVt.out _ HB1.out).mono ?_; rintro e w2 ⟨vt, rfl, hvt, hb⟩; have HB2 := Lib.hid (HB1.out.trans (hb.mono HB1.out.size)); have Hvt := Lib.hid hvt; clear hb hvt; clear s0b s1b s2b s3b t0b t1b t2b t3b; cases vt))
      all_goals
        go_meet
        first | exact ⟨true, rfl, Lib.hid ⟨HB2.out, fun h => by cases h⟩⟩ | exact ⟨true, rfl, Lib.hid ⟨HB1.out, fun h => by cases h⟩⟩ | exact ⟨false, rfl, Lib.hid ⟨HB2.out, fun _ => ⟨(by first | exact Hvs.out rfl | exact Hvs.out trivial), (by first | exact Hvt.out rfl | exact Hvt.out trivial), by omega⟩⟩⟩
  case rest =>
    obtain ⟨b, rfl, hX⟩ := hcut
    clear s0a s1a s2a s3a t0a t1a t2a t3a
    have wk : Hid (Calls Try.prog 9 #[] wc fun e w' => e = .returned (.bool true) ∧ Below w.heap.size w w') := Lib.hid ((HWk.out wc).mono fun e w' h => ⟨h.1, HI.out.1.trans ((hX.out.1.trans (h.2.mono hX.out.1.size)).mono HI.out.1.size)⟩)
    cases b with
    | true =>
      go_wp2_with (go_at_call 9; refine wk.out.mono ?_; rintro e w2 ⟨rfl, hb⟩; have HB2 := Lib.hid hb; clear hb)
      go_ret
      exact ⟨rfl, HB2.out⟩
    | false =>
      have HSm := Lib.hid (hX.out.2 rfl)
      have HBc := Lib.hid hX.out.1
      clear hX wk
      go_wp2_with fail
      go_loopw [10] (fun iv wr => ∃ i : Nat, i ≤ ll ∧ iv = .int .i64 (i : Int) ∧ Hid (Below w0.heap.size w0 wr ∧ ∀ (r : Nat) (x : Ty), r < i → ts[r]? = some x → small x)) (fun iv _ => ll - (intOf iv).toNat)
      case atStart => exact ⟨0, Nat.zero_le _, rfl, Lib.hid ⟨HBc.out, fun r x h => absurd h (Nat.not_lt_zero r)⟩⟩
      case round =>
        clear HBc
        obtain ⟨i, hi, rfl, hJ⟩ := hrel
        by_cases hli : i < ll
        · have hd : decide ((i : Int) < (ll : Int)) = true := by simpa using hli
          obtain ⟨x, hx⟩ : ∃ x, ts[i]? = some x := ⟨_, List.getElem?_eq_getElem (by rw [HI.out.2.2.2.2.1]; exact hli)⟩
          have hbr : Below w.heap.size w wr := HI.out.1.trans (hJ.out.1.mono HI.out.1.size)
          obtain ⟨b1, o1, A2, c2, rfl, _, _, z0, z1, z2, z3, hok, hxc, hcm, hAt⟩ := (Ty.At.belB HI.out.2.2.2.1 hbr).get hx
          have hC := vast_any x A2 c2 wr ⟨hAt.now, hxc, hcm, hok⟩
          unfold Ty.val at hC
          obtain ⟨xl, hxl⟩ : ∃ xl, x.ks.length = xl := ⟨_, rfl⟩
          rw [hxl] at hC z3
          have HC := Lib.hid hC
          have HX := Lib.hid hx
          clear hbr hok hxc hcm hAt hC hxl hx
          go_upto_if 46 with (go_at_call 8; refine HC.out.mono ?_; rintro e w3 ⟨vb, rfl, hvb, hb⟩; have HB3 := Lib.hid (hJ.out.1.trans (hb.mono hJ.out.1.size)); have Hvb := Lib.hid hvb; clear hb hvb)
          cases vb with
          | true =>
            clear z0 z1 z2 z3
            go_wp2_with (go_at_call 9; refine (HWk.out _).mono ?_; rintro e w4 ⟨rfl, hb⟩; have HB4 := Lib.hid (HB3.out.trans (hb.mono HB3.out.size)); clear hb)
            go_ret
            exact ⟨rfl, HI.out.1.trans (HB4.out.mono HI.out.1.size)⟩
          | false =>
            have HN : Hid (Below w0.heap.size w0 w3 ∧ ∀ (r : Nat) (x : Ty), r < i + 1 → ts[r]? = some x → small x) := Lib.hid ⟨HB3.out, fun r y hr hy => by
              by_cases e : r = i
              · subst e; rw [HX.out] at hy; cases hy; exact (by first | exact Hvb.out rfl | exact Hvb.out trivial)
              · exact hJ.out.2 r y (by omega) hy⟩
            clear hJ HC HX Hvb HB3 z0 z1 z2 z3
            go_wp2_with fail
            go_roundw
            case rel => exact ⟨i + 1, by omega, by go_num, HN⟩
            case measure => simp [intOf]; omega
        · obtain rfl : ll = i := by omega
          have hd : decide ((ll : Int) < (ll : Int)) = false := by simp
          have HAll : Hid (∀ x ∈ ts, small x) := Lib.hid fun x hx => by
            obtain ⟨r, hr⟩ := List.getElem?_of_mem hx
            exact hJ.out.2 r x (by have := (List.getElem?_eq_some_iff.1 hr).1; have := HI.out.2.2.2.2.1; omega) hr
          have HBr := Lib.hid hJ.out.1
          clear hJ
          have HT0 : Hid (Tb w0.heap.size w0 s A c ∧ Tb w0.heap.size w0 t B d) := Lib.hid ⟨HTb.out s A c HI.out.2.1 w0 (Below.refl _ _), HTb.out t B d HI.out.2.2.1 w0 (Below.refl _ _)⟩
          have hsl := HI.out.2.2.2.2.2.1
          have htl := HI.out.2.2.2.2.2.2
          obtain ⟨P, hP⟩ : ∃ P, Ty.put ts s = P := ⟨_, rfl⟩
          obtain ⟨Q, hQ⟩ : ∃ Q, Ty.put ts t = Q := ⟨_, rfl⟩
          obtain ⟨pl, hpl⟩ : ∃ pl, P.ks.length = pl := ⟨_, rfl⟩
          obtain ⟨ql, hql⟩ : ∃ ql, Q.ks.length = ql := ⟨_, rfl⟩
          obtain ⟨pq, hpq⟩ : ∃ pq, Ty.same P Q = pq := ⟨_, rfl⟩
          have CP : Hid (∀ W, Below w0.heap.size w0 W → Calls Try.prog 18 #[.agg #[.int .u8 (s.k : Int), .string (str s.nm), .int .i64 s.n, .slice A sl c], .slice L ll lc] W fun e w' => ∃ A3 c3, e = .returned (.agg #[.int .u8 (P.k : Int), .string (str P.nm), .int .i64 P.n, .slice A3 pl c3]) ∧ MadeF (fun b => b < w.heap.size) W w' P A3 c3) := Lib.hid fun W hW => by
            have hbw : Below w.heap.size w W := HI.out.1.trans (hW.mono HI.out.1.size)
            have h := rput_any (F := fun b => b < w.heap.size) ts L lc s A c W (HI.out.2.1.bel hbw).at_ HI.out.2.1.len HI.out.2.1.cap HI.out.2.1.ok (by have := HSm.out.1.1; omega) (fun b hb => Nat.lt_of_lt_of_le hb hbw.size) (HI.out.2.2.2.1.belB hbw)
            unfold Ty.val at h
            rw [hP, hsl, hpl, HI.out.2.2.2.2.1] at h
            exact h
          have CQ : Hid (∀ W, Below w0.heap.size w0 W → Calls Try.prog 18 #[.agg #[.int .u8 (t.k : Int), .string (str t.nm), .int .i64 t.n, .slice B tl d], .slice L ll lc] W fun e w' => ∃ A3 c3, e = .returned (.agg #[.int .u8 (Q.k : Int), .string (str Q.nm), .int .i64 Q.n, .slice A3 ql c3]) ∧ MadeF (fun b => b < w.heap.size) W w' Q A3 c3) := Lib.hid fun W hW => by
            have hbw : Below w.heap.size w W := HI.out.1.trans (hW.mono HI.out.1.size)
            have h := rput_any (F := fun b => b < w.heap.size) ts L lc t B d W (HI.out.2.2.1.bel hbw).at_ HI.out.2.2.1.len HI.out.2.2.1.cap HI.out.2.2.1.ok (by have := HSm.out.2.1.1; omega) (fun b hb => Nat.lt_of_lt_of_le hb hbw.size) (HI.out.2.2.2.1.belB hbw)
            unfold Ty.val at h
            rw [hQ, htl, hql, HI.out.2.2.2.2.1] at h
            exact h
          have CS : Hid (∀ (W : World) (A2 A3 : Option Addr) (c2 c3 : Nat) (F G : Nat → Prop), Ty.At F W A2 P.ks → pl ≤ c2 → c2 ≤ maxLen → Ty.At G W A3 Q.ks → Calls Try.prog 14 #[.agg #[.int .u8 (P.k : Int), .string (str P.nm), .int .i64 P.n, .slice A2 pl c2], .agg #[.int .u8 (Q.k : Int), .string (str Q.nm), .int .i64 Q.n, .slice A3 ql c3]] W fun e w' => e = .returned (.bool pq) ∧ Below W.heap.size W w') := Lib.hid fun W A2 A3 c2 c3 F G k1 k2 k3 k4 => by
            have h := rsame_any P Q A2 c2 A3 c3 W k1 (by rw [hpl]; exact k2) k3 k4
            rw [hpq] at h
            unfold Ty.val at h
            rw [hpl, hql] at h
            exact h
          have HPL := Lib.hid hpl
          have HPQ : Hid (pq = true → Ty.put ts s = Ty.put ts t) := Lib.hid fun h => by rw [hP, hQ]; exact same_iff.1 (hpq.trans h)
          have bx := HBks.out.below HBr.out HBks.out.lt
          have s0c := bx.cell 0
          have s1c := bx.cell 1
          have s2c := bx.cell 2
          have s3c := bx.cell 3
          simp only [List.getElem?_toArray, List.getElem?_cons_zero, List.getElem?_cons_succ] at s0c s1c s2c s3c
          clear bx
          have bx := HBkt.out.below HBr.out HBkt.out.lt
          have t0c := bx.cell 0
          have t1c := bx.cell 1
          have t2c := bx.cell 2
          have t3c := bx.cell 3
          simp only [List.getElem?_toArray, List.getElem?_cons_zero, List.getElem?_cons_succ] at t0c t1c t2c t3c
          clear bx
          have HSL := Lib.hid (And.intro hsl htl)
          clear hP hQ hpl hql hpq hsl htl
          go_upto_region 9 with fail
          refine wp_region_held_drew (S := (fun W => W.cell? ⟨w.heap.size, 0, none⟩ = some (.int .u8 (s.k : Int)) ∧ W.cell? ⟨w.heap.size, 1, none⟩ = some (.string (str s.nm)) ∧ W.cell? ⟨w.heap.size, 2, none⟩ = some (.int .i64 s.n) ∧ W.cell? ⟨w.heap.size, 3, none⟩ = some (.slice A sl c) ∧ W.cell? ⟨(w.heap.size + 1), 0, none⟩ = some (.int .u8 (t.k : Int)) ∧ W.cell? ⟨(w.heap.size + 1), 1, none⟩ = some (.string (str t.nm)) ∧ W.cell? ⟨(w.heap.size + 1), 2, none⟩ = some (.int .i64 t.n) ∧ W.cell? ⟨(w.heap.size + 1), 3, none⟩ = some (.slice B tl d))) (by kernel_rfl) ⟨s0c, s1c, s2c, s3c, t0c, t1c, t2c, t3c⟩ (fun hHeld => ?_)
          refine takeY 0 (some 48) rfl rfl (by kernel_rfl) (by kernel_rfl) (by kernel_rfl) (fun _ _ _ h => h) (by rfl) (v := _) (by (intro _ hSw; (try dsimp only at hSw); go_simp; try with_reducible rfl)) hHeld ?_
          simp only [Act.put, List.setIfInBounds_toArray, List.set_cons_zero, List.set_cons_succ]
          refine takeY 1 (some 49) rfl rfl (by kernel_rfl) (by kernel_rfl) (by kernel_rfl) (fun _ _ _ h => h) (by rfl) (v := _) (by (intro _ hSw; (try dsimp only at hSw); go_simp; try with_reducible rfl)) hHeld ?_
          simp only [Act.put, List.setIfInBounds_toArray, List.set_cons_zero, List.set_cons_succ]
          refine takeY 3 (some 51) rfl rfl (by kernel_rfl) (by kernel_rfl) (by kernel_rfl) (fun _ _ _ h => h) (by rfl) (v := _) (by (intro _ hSw; (try dsimp only at hSw); go_simp; try with_reducible rfl)) hHeld ?_
          simp only [Act.put, List.setIfInBounds_toArray, List.set_cons_zero, List.set_cons_succ]
          refine takeY 4 (some 52) rfl rfl (by kernel_rfl) (by kernel_rfl) (by kernel_rfl) (fun _ _ _ h => h) (by rfl) (v := _) (by (intro _ hSw; (try dsimp only at hSw); go_simp; try with_reducible rfl)) hHeld ?_
          simp only [Act.put, List.setIfInBounds_toArray, List.set_cons_zero, List.set_cons_succ]
          refine wpAnyH_ready (rs := [2]) (by kernel_rfl) (by simp) ?_
          refine AllReadyH.cons rfl (fun K hK => ?_) AllReadyH.nil
          clear hHeld
          go_simp
          go_wp2_with (go_at_call 18; refine Calls.mono (CP.out _ HBr.out.drew) ?_; rintro en wa ⟨A3, c3, rfl, hmd⟩; have HBa := Lib.hid (HBr.out.drew.trans (hmd.bel.mono HBr.out.size)); have HMa := Lib.hid hmd; clear hmd s0c s1c s2c s3c t0c t1c t2c t3c; have bx := HBks.out.below HBa.out HBks.out.lt; have s0j := bx.cell 0; have s1j := bx.cell 1; have s2j := bx.cell 2; have s3j := bx.cell 3; simp only [List.getElem?_toArray, List.getElem?_cons_zero, List.getElem?_cons_succ] at s0j s1j s2j s3j; clear bx; have bx := HBkt.out.below HBa.out HBkt.out.lt; have t0j := bx.cell 0; have t1j := bx.cell 1; have t2j := bx.cell 2; have t3j := bx.cell 3; simp only [List.getElem?_toArray, List.getElem?_cons_zero, List.getElem?_cons_succ] at t0j t1j t2j t3j; clear bx)
          refine hK.out _ _ ⟨s0j, s1j, s2j, s3j, t0j, t1j, t2j, t3j⟩ (fun hHeld => ?_)
          clear hK K
          refine wpAnyH_ready (rs := [5]) (by kernel_rfl) (by simp) ?_
          refine AllReadyH.cons rfl (fun K hK => ?_) AllReadyH.nil
          clear hHeld
          go_simp
          go_wp2_with (go_at_call 18; refine Calls.mono (CQ.out _ HBa.out) ?_; rintro en wb ⟨A4, c4, rfl, hmd⟩; have HMa2 := Lib.hid (HMa.out.at_.bel hmd.bel); have HBb := Lib.hid (HBa.out.trans (hmd.bel.mono HBa.out.size)); have HMb := Lib.hid hmd; clear hmd s0j s1j s2j s3j t0j t1j t2j t3j; have bx := HBks.out.below HBb.out HBks.out.lt; have s0k := bx.cell 0; have s1k := bx.cell 1; have s2k := bx.cell 2; have s3k := bx.cell 3; simp only [List.getElem?_toArray, List.getElem?_cons_zero, List.getElem?_cons_succ] at s0k s1k s2k s3k; clear bx; have bx := HBkt.out.below HBb.out HBkt.out.lt; have t0k := bx.cell 0; have t1k := bx.cell 1; have t2k := bx.cell 2; have t3k := bx.cell 3; simp only [List.getElem?_toArray, List.getElem?_cons_zero, List.getElem?_cons_succ] at t0k t1k t2k t3k; clear bx)
          refine hK.out _ _ ⟨s0k, s1k, s2k, s3k, t0k, t1k, t2k, t3k⟩ (fun hHeld => ?_)
          clear hK K
          refine wpAnyH_ready (rs := [6]) (by kernel_rfl) (by simp) ?_
          refine AllReadyH.cons rfl (fun K hK => ?_) AllReadyH.nil
          clear hHeld
          go_simp
          go_wp2_with (go_at_call 14; refine Calls.mono (CS.out _ A3 A4 c3 c4 _ _ HMa2.out (by rw [← HPL.out]; exact HMa.out.len) HMa.out.cap HMb.out.at_) ?_; rintro en wd ⟨rfl, hb⟩; have HBd := Lib.hid (HBb.out.trans (hb.mono HBb.out.size)); clear hb s0k s1k s2k s3k t0k t1k t2k t3k; have bx := HBks.out.below HBd.out HBks.out.lt; have s0l := bx.cell 0; have s1l := bx.cell 1; have s2l := bx.cell 2; have s3l := bx.cell 3; simp only [List.getElem?_toArray, List.getElem?_cons_zero, List.getElem?_cons_succ] at s0l s1l s2l s3l; clear bx; have bx := HBkt.out.below HBd.out HBkt.out.lt; have t0l := bx.cell 0; have t1l := bx.cell 1; have t2l := bx.cell 2; have t3l := bx.cell 3; simp only [List.getElem?_toArray, List.getElem?_cons_zero, List.getElem?_cons_succ] at t0l t1l t2l t3l; clear bx)
          refine hK.out _ _ ⟨s0l, s1l, s2l, s3l, t0l, t1l, t2l, t3l⟩ (fun hHeld => ?_)
          clear hK K
          refine takeY 7 (some 55) rfl rfl (by kernel_rfl) (by kernel_rfl) (by kernel_rfl) (fun _ _ _ h => h) (by rfl) (v := _) (by (intro _ hSw; (try dsimp only at hSw); go_simp; try with_reducible rfl)) hHeld ?_
          simp only [Act.put, List.setIfInBounds_toArray, List.set_cons_zero, List.set_cons_succ]
          refine wpAnyH_done (by kernel_rfl) ?_ _
          clear hHeld CP CQ CS HMa HMa2 HMb
          cases pq with
          | false =>
            clear s0l s1l s2l s3l t0l t1l t2l t3l
            go_wp2_with (go_at_call 9; refine (HWk.out _).mono ?_; rintro e w2 ⟨rfl, hb⟩; have HB2 := Lib.hid (HBd.out.trans (hb.mono HBd.out.size)); clear hb)
            go_ret
            exact ⟨rfl, HI.out.1.trans (HB2.out.mono HI.out.1.size)⟩
          | true =>
            have HEQ := Lib.hid (HPQ.out (by trivial))
            go_upto_region 12 with (go_at_call 19; refine (HBo.out _).mono ?_; rintro e w5 ⟨g, r, vb, rfl, hn⟩; have HW5 : Hid (BW w0 w5 g k [] vb (.slice none 0 0)) := Lib.hid ⟨hn.bm, HBd.out.trans (hn.bel.mono HBd.out.size), fun b h => Nat.le_trans HBd.out.size (hn.mt b h)⟩; clear hn s0l s1l s2l s3l t0l t1l t2l t3l)
            have bx := HBks.out.below HW5.out.bel HBks.out.lt
            have s0f := bx.cell 0
            have s1f := bx.cell 1
            have s2f := bx.cell 2
            have s3f := bx.cell 3
            simp only [List.getElem?_toArray, List.getElem?_cons_zero, List.getElem?_cons_succ] at s0f s1f s2f s3f
            clear bx
            have bx := HBkt.out.below HW5.out.bel HBkt.out.lt
            have t0f := bx.cell 0
            have t1f := bx.cell 1
            have t2f := bx.cell 2
            have t3f := bx.cell 3
            simp only [List.getElem?_toArray, List.getElem?_cons_zero, List.getElem?_cons_succ] at t0f t1f t2f t3f
            clear bx
            have CU : Hid (Calls Try.prog 20 #[.pointer (some ⟨g, 0, none⟩), .agg #[.int .u8 (s.k : Int), .string (str s.nm), .int .i64 s.n, .slice A sl c], .agg #[.int .u8 (t.k : Int), .string (str t.nm), .int .i64 t.n, .slice B tl d]] w5 (UnR w5 g k vb (.slice none 0 0) s t [] tvar)) := Lib.hid (by
              have h := Unify_any (Slv.start k) s t A B c d (HW5.out.old HT0.out.1) (HW5.out.old HT0.out.2) HW5.out.bm
              unfold Ty.val at h
              rw [HSL.out.1, HSL.out.2] at h
              exact h)
            go_upto_if 66 with (go_at_call 20; refine CU.out.mono ?_; rintro en w6 ⟨e, l1, S1, vt1, rfl, h1, h2, h3, h4⟩; have HW6 := Lib.hid (And.intro (HW5.out.step h3 h4) (And.intro h1 h2)); clear h1 h2 h3 h4 CU)
            clear s0f s1f s2f s3f t0f t1f t2f t3f
            by_cases he : e = 0
            case neg =>
              have q0 : ((e : Int) != 0) = true := by unfold bne; simp [he]
              clear he
              go_wp2_with (go_at_call 9; refine (HWk.out _).mono ?_; rintro e w2 ⟨rfl, hb⟩; have HB2 := Lib.hid (HW6.out.1.bel.trans (hb.mono HW6.out.1.bel.size)); clear hb)
              go_ret
              exact ⟨rfl, HI.out.1.trans (HB2.out.mono HI.out.1.size)⟩
            have q0 : ((e : Int) != 0) = false := by simp [he]
            have HU0 : Hid (UniT k s t [] tvar 0 l1 S1) := Lib.hid (he ▸ HW6.out.2.1)
            clear he
            go_wp2_with fail
            (try rw [q0])
            go_loopw [13, 14] (fun iv _ wr => ∃ i : Nat, i ≤ k ∧ iv = .int .i64 (i : Int) ∧ Hid (BW w0 wr g k l1 vb vt1)) (fun iv _ _ => k - (intOf iv).toNat)
            case atStart => exact ⟨0, Nat.zero_le _, rfl, Lib.hid HW6.out.1⟩
            case round =>
              obtain ⟨i, hi, rfl, hJ⟩ := hrel
              by_cases hli : i < k
              · have hd2 : decide ((i : Int) < (k : Int)) = true := by simpa using hli
                have HV := Lib.hid (rvar_any (i : Int))
                obtain ⟨x, hx⟩ : ∃ x, applyT k S1 (tvar (i : Int)) = x := ⟨_, rfl⟩
                obtain ⟨xl, hxl⟩ : ∃ xl, x.ks.length = xl := ⟨_, rfl⟩
                have CA : Hid (∀ W, Below wr.heap.size wr W → Calls Try.prog 22 #[.pointer (some ⟨g, 0, none⟩), .agg #[.int .u8 1, .string ⟨#[]⟩, .int .i64 (i : Int), .slice none 0 0]] W fun en w' => ∃ A2 c2, en = .returned (.agg #[.int .u8 (x.k : Int), .string (str x.nm), .int .i64 x.n, .slice A2 xl c2]) ∧ Made W w' x A2 c2) := Lib.hid fun W hW => by
                  have hB := hJ.out.bm.bel hW
                  obtain ⟨Ab, cb, hvb, _, _⟩ := hB.shape
                  have h := Apply_any HW6.out.2.2 (tvar (i : Int)) none 0 W (by show Ty.parts (.node 1 [] (i : Int) []) ≤ 100000; simp [parts, partss]) (Tm.leaf (fun _ => False) W (by decide) _ (by omega)).tb (hvb ▸ hB : BM W g k l1 (.slice Ab k cb) vt1).bk
                  rw [hx] at h
                  unfold Ty.val at h
                  rw [hxl] at h
                  exact h
                go_upto_region 18 with (first | (go_at_call 23; refine (HV.out _).mono ?_; rintro en w7 ⟨rfl, hb⟩; have HB7 := Lib.hid hb; clear hb) | (go_at_call 22; refine (CA.out _ HB7.out).mono ?_; rintro en w8 ⟨A5, c5, rfl, hmd⟩; have HB8 := Lib.hid (HB7.out.trans (hmd.bel.mono HB7.out.size)); have HM8 := Lib.hid hmd; clear hmd))
                obtain ⟨w9, hw9⟩ : ∃ w9, w8.alloc (.cells #[.int .u8 (x.k : Int), .string (str x.nm), .int .i64 x.n, .slice A5 xl c5] 24) = w9 := ⟨_, rfl⟩
                have hb9 : Below w8.heap.size w8 w9 := by rw [← hw9]; exact (Below.refl _ _).alloc (Nat.le_refl _) _
                have hk9 : Blk w9 w8.heap.size 24 #[.int .u8 (x.k : Int), .string (str x.nm), .int .i64 x.n, .slice A5 xl c5] := by rw [← hw9]; exact Blk.new _ _ _
                obtain ⟨px, hpx⟩ : ∃ px, w8.heap.size = px := ⟨_, rfl⟩
                (try rw [hw9])
                (try rw [hpx])
                rw [hpx] at hk9
                have HB9 := Lib.hid (HB8.out.trans (hb9.mono HB8.out.size))
                have HS9 := Lib.hid hb9.size
                have HM9 := Lib.hid (HM8.out.at_.bel hb9)
                have HK9 := Lib.hid hk9
                have HX := Lib.hid (And.intro hx hxl)
                clear hw9 hb9 hk9 hpx hx hxl HV CA
                have x0 := HK9.out.cell 0
                have x1 := HK9.out.cell 1
                have x2 := HK9.out.cell 2
                have x3 := HK9.out.cell 3
                simp only [List.getElem?_toArray, List.getElem?_cons_zero, List.getElem?_cons_succ] at x0 x1 x2 x3
                go_cut [90] from 68 to 90 (fun s90 wx => s90 = .bool false ∧ Hid (Below wr.heap.size wr wx))
                case first =>
                  by_cases hk0 : x.k = 0
                  · have q1 : ((x.k : Int) != 0) = false := by simp [hk0]
                    have HD := Lib.hid HB9.out.drew
                    clear hk0
                    refine wp_region_held_drew (S := (fun W => W.cell? ⟨px, 0, none⟩ = some (.int .u8 (x.k : Int)) ∧ W.cell? ⟨px, 1, none⟩ = some (.string (str x.nm)) ∧ W.cell? ⟨px, 2, none⟩ = some (.int .i64 x.n) ∧ W.cell? ⟨px, 3, none⟩ = some (.slice A5 xl c5))) (by kernel_rfl) ⟨x0, x1, x2, x3⟩ (fun hHeld => ?_)
                    refine takeY 0 (some 77) rfl rfl (by kernel_rfl) (by kernel_rfl) (by kernel_rfl) (fun _ _ _ h => h) (by rfl) (v := _) (by (intro _ hSw; (try dsimp only at hSw); go_simp; try with_reducible rfl)) hHeld ?_
                    simp only [Act.put, List.setIfInBounds_toArray, List.set_cons_zero, List.set_cons_succ]
                    refine takeY 1 (some 78) rfl rfl (by kernel_rfl) (by kernel_rfl) (by kernel_rfl) (fun _ _ _ h => h) (by rfl) (v := _) (by (intro _ hSw; (try dsimp only at hSw); go_simp; try with_reducible rfl)) hHeld ?_
                    simp only [Act.put, List.setIfInBounds_toArray, List.set_cons_zero, List.set_cons_succ]
                    refine takeY 2 (some 79) rfl rfl (by kernel_rfl) (by kernel_rfl) (by kernel_rfl) (fun _ _ _ h => h) (by rfl) (v := _) (by (intro _ hSw; (try dsimp only at hSw); go_simp; try with_reducible rfl)) hHeld ?_
                    simp only [Act.put, List.setIfInBounds_toArray, List.set_cons_zero, List.set_cons_succ]
                    refine takeY 3 (some 80) rfl rfl (by kernel_rfl) (by kernel_rfl) (by kernel_rfl) (fun _ _ _ h => h) (by rfl) (v := _) (by (intro _ hSw; (try dsimp only at hSw); go_simp; try with_reducible rfl)) hHeld ?_
                    simp only [Act.put, List.setIfInBounds_toArray, List.set_cons_zero, List.set_cons_succ]
                    refine takeN 4 (some 81) rfl rfl (by kernel_rfl) (by kernel_rfl) (by kernel_rfl) (fun _ _ _ h => h) (by rfl) hHeld ?_
                    simp only [Act.put, List.setIfInBounds_toArray, List.set_cons_zero, List.set_cons_succ]
                    refine takeN 5 (some 82) rfl rfl (by kernel_rfl) (by kernel_rfl) (by kernel_rfl) (fun _ _ _ h => h) (by rfl) hHeld ?_
                    simp only [Act.put, List.setIfInBounds_toArray, List.set_cons_zero, List.set_cons_succ]
                    refine takeN 6 (some 83) rfl rfl (by kernel_rfl) (by kernel_rfl) (by kernel_rfl) (fun _ _ _ h => h) (by rfl) hHeld ?_
                    simp only [Act.put, List.setIfInBounds_toArray, List.set_cons_zero, List.set_cons_succ]
                    refine takeN 7 (some 84) rfl rfl (by kernel_rfl) (by kernel_rfl) (by kernel_rfl) (fun _ _ _ h => h) (by rfl) hHeld ?_
                    simp only [Act.put, List.setIfInBounds_toArray, List.set_cons_zero, List.set_cons_succ]
                    refine takeN 8 (some 85) rfl rfl (by kernel_rfl) (by kernel_rfl) (by kernel_rfl) (fun _ _ _ h => h) (by rfl) hHeld ?_
                    simp only [Act.put, List.setIfInBounds_toArray, List.set_cons_zero, List.set_cons_succ]
                    refine takeN 9 (some 86) rfl rfl (by kernel_rfl) (by kernel_rfl) (by kernel_rfl) (fun _ _ _ h => h) (by rfl) hHeld ?_
                    simp only [Act.put, List.setIfInBounds_toArray, List.set_cons_zero, List.set_cons_succ]
                    refine takeN 10 (some 87) rfl rfl (by kernel_rfl) (by kernel_rfl) (by kernel_rfl) (fun _ _ _ h => h) (by rfl) hHeld ?_
                    simp only [Act.put, List.setIfInBounds_toArray, List.set_cons_zero, List.set_cons_succ]
                    refine takeN 11 (some 88) rfl rfl (by kernel_rfl) (by kernel_rfl) (by kernel_rfl) (fun _ _ _ h => h) (by rfl) hHeld ?_
                    simp only [Act.put, List.setIfInBounds_toArray, List.set_cons_zero, List.set_cons_succ]
                    refine takeN 12 (some 89) rfl rfl (by kernel_rfl) (by kernel_rfl) (by kernel_rfl) (fun _ _ _ h => h) (by rfl) hHeld ?_
                    simp only [Act.put, List.setIfInBounds_toArray, List.set_cons_zero, List.set_cons_succ]
                    refine takeY 13 (some 90) rfl rfl (by kernel_rfl) (by kernel_rfl) (by kernel_rfl) (fun _ _ _ h => h) (by rfl) (v := _) (by (intro _ hSw; (try dsimp only at hSw); go_simp; try with_reducible rfl)) hHeld ?_
                    simp only [Act.put, List.setIfInBounds_toArray, List.set_cons_zero, List.set_cons_succ]
                    refine wpAnyH_done (by kernel_rfl) ?_ _
                    clear hHeld
                    go_wp2_with fail
                    go_meet
                    exact ⟨rfl, HD⟩
                  · have q1 : ((x.k : Int) != 0) = true := by unfold bne; simp [hk0]
                    have hxp : ts[i]? = some (x.put ts) := by
                      have h1 := HX.out.1
                      rw [← h1]
                      exact best_of HU0.out ts HEQ.out hli (by rw [HI.out.2.2.2.2.1]; have := HSm.out.2.2.2; omega) (by rw [h1]; exact hk0) (HW6.out.2.2.res (i : Int) (Int.natCast_nonneg i) (by omega)).1.1
                    have hxp2 : x.parts ≤ 100000 := by
                      have h1 := HX.out.1
                      unfold applyT at h1
                      rw [if_pos (good_tvar (Int.natCast_nonneg i) (by omega))] at h1
                      split at h1
                      · rw [← h1]; unfold zeroTy; simp [parts, partss]
                      · rename_i hng; unfold great at hng; rw [← h1]; omega
                    have HP2 := Lib.hid (And.intro hxp hxp2)
                    clear hxp hxp2 hk0
                    obtain ⟨P, hP⟩ : ∃ P, Ty.put ts x = P := ⟨_, rfl⟩
                    obtain ⟨pl, hpl⟩ : ∃ pl, P.ks.length = pl := ⟨_, rfl⟩
                    have hgP : ts[i]? = some P := by rw [← hP]; exact HP2.out.1
                    have hbL : ∀ W, Below wr.heap.size wr W → Ty.At (fun b => b < w.heap.size) W L ts := fun W hW => HI.out.2.2.2.1.belB (HI.out.1.trans ((hJ.out.bel.trans (hW.mono hJ.out.bel.size)).mono HI.out.1.size))
                    have CP : Hid (∀ W, Below w9.heap.size w9 W → Calls Try.prog 18 #[.agg #[.int .u8 (x.k : Int), .string (str x.nm), .int .i64 x.n, .slice A5 xl c5], .slice L ll lc] W fun e w' => ∃ A3 c3, e = .returned (.agg #[.int .u8 (P.k : Int), .string (str P.nm), .int .i64 P.n, .slice A3 pl c3]) ∧ MadeF (fun b => b < w9.heap.size) W w' P A3 c3) := Lib.hid fun W hW => by
                      have h := rput_any (F := fun b => b < w9.heap.size) ts L lc x A5 c5 W (((HM9.out.bel hW).mono fun b hb => Nat.lt_of_lt_of_le hb.2 HS9.out)) HM8.out.len HM8.out.cap HM8.out.ok HP2.out.2 (fun b hb => Nat.lt_of_lt_of_le hb hW.size) ((hbL W (HB9.out.trans (hW.mono HB9.out.size))).mono fun b hb => by have h1 := HI.out.1.size; have h2 := hJ.out.bel.size; have h3 := HB9.out.size; omega)
                      unfold Ty.val at h
                      rw [hP, HX.out.2, hpl, HI.out.2.2.2.2.1] at h
                      exact h
                    obtain ⟨b1, o1, A6, c6, rfl, _, hbl, z0, z1, z2, z3, hok, hlc6, hcm6, hAt6⟩ := (hbL w9 HB9.out).get hgP
                    rw [hpl] at z3
                    have CS : Hid (∀ (W : World) (A2 : Option Addr) (c2 : Nat) (F : Nat → Prop), Below w9.heap.size w9 W → Ty.At F W A2 P.ks → pl ≤ c2 → c2 ≤ maxLen → Calls Try.prog 14 #[.agg #[.int .u8 (P.k : Int), .string (str P.nm), .int .i64 P.n, .slice A2 pl c2], .agg #[.int .u8 (P.k : Int), .string (str P.nm), .int .i64 P.n, .slice A6 pl c6]] W fun e w' => e = .returned (.bool true) ∧ Below W.heap.size W w') := Lib.hid fun W A2 c2 F hW k1 k2 k3 => by
                      have h := rsame_any P P A2 c2 A6 c6 W k1 (by rw [hpl]; exact k2) k3 (hAt6.bel (hW.mono (Nat.le_refl _)))
                      rw [same_refl] at h
                      unfold Ty.val at h
                      rw [hpl] at h
                      exact h
                    have HPL := Lib.hid hpl
                    have HZ : Hid (∀ W, Below w9.heap.size w9 W → W.cell? ⟨b1, o1 + i * 4, none⟩ = some (.int .u8 (P.k : Int)) ∧ W.cell? ⟨b1, o1 + i * 4 + 1, none⟩ = some (.string (str P.nm)) ∧ W.cell? ⟨b1, o1 + i * 4 + 2, none⟩ = some (.int .i64 P.n) ∧ W.cell? ⟨b1, o1 + i * 4 + 3, none⟩ = some (.slice A6 pl c6)) := Lib.hid fun W hW => ⟨(hW.cell (p := ⟨b1, o1 + i * 4, none⟩) hbl).trans z0, (hW.cell (p := ⟨b1, o1 + i * 4 + 1, none⟩) hbl).trans z1, (hW.cell (p := ⟨b1, o1 + i * 4 + 2, none⟩) hbl).trans z2, (hW.cell (p := ⟨b1, o1 + i * 4 + 3, none⟩) hbl).trans z3⟩
                    have HD := Lib.hid (Below.drew (Below.refl w9.heap.size w9))
                    have hil : i < ll := by have := HSm.out.2.2.2; omega
                    clear hP hgP hbL hok hlc6 hcm6 hAt6 hpl hbl
                    refine wp_region_held_drew (S := (fun W => W.cell? ⟨px, 0, none⟩ = some (.int .u8 (x.k : Int)) ∧ W.cell? ⟨px, 1, none⟩ = some (.string (str x.nm)) ∧ W.cell? ⟨px, 2, none⟩ = some (.int .i64 x.n) ∧ W.cell? ⟨px, 3, none⟩ = some (.slice A5 xl c5) ∧ W.cell? ⟨b1, o1 + i * 4, none⟩ = some (.int .u8 (P.k : Int)) ∧ W.cell? ⟨b1, o1 + i * 4 + 1, none⟩ = some (.string (str P.nm)) ∧ W.cell? ⟨b1, o1 + i * 4 + 2, none⟩ = some (.int .i64 P.n) ∧ W.cell? ⟨b1, o1 + i * 4 + 3, none⟩ = some (.slice A6 pl c6))) (by kernel_rfl) ⟨x0, x1, x2, x3, z0, z1, z2, z3⟩ (fun hHeld => ?_)
                    refine takeY 0 (some 77) rfl rfl (by kernel_rfl) (by kernel_rfl) (by kernel_rfl) (fun _ _ _ h => h) (by rfl) (v := _) (by (intro _ hSw; (try dsimp only at hSw); go_simp; try with_reducible rfl)) hHeld ?_
                    simp only [Act.put, List.setIfInBounds_toArray, List.set_cons_zero, List.set_cons_succ]
                    refine takeY 1 (some 78) rfl rfl (by kernel_rfl) (by kernel_rfl) (by kernel_rfl) (fun _ _ _ h => h) (by rfl) (v := _) (by (intro _ hSw; (try dsimp only at hSw); go_simp; try with_reducible rfl)) hHeld ?_
                    simp only [Act.put, List.setIfInBounds_toArray, List.set_cons_zero, List.set_cons_succ]
                    refine takeY 2 (some 79) rfl rfl (by kernel_rfl) (by kernel_rfl) (by kernel_rfl) (fun _ _ _ h => h) (by rfl) (v := _) (by (intro _ hSw; (try dsimp only at hSw); go_simp; try with_reducible rfl)) hHeld ?_
                    simp only [Act.put, List.setIfInBounds_toArray, List.set_cons_zero, List.set_cons_succ]
                    refine takeY 3 (some 80) rfl rfl (by kernel_rfl) (by kernel_rfl) (by kernel_rfl) (fun _ _ _ h => h) (by rfl) (v := _) (by (intro _ hSw; (try dsimp only at hSw); go_simp; try with_reducible rfl)) hHeld ?_
                    simp only [Act.put, List.setIfInBounds_toArray, List.set_cons_zero, List.set_cons_succ]
                    refine takeY 4 (some 81) rfl rfl (by kernel_rfl) (by kernel_rfl) (by kernel_rfl) (fun _ _ _ h => h) (by rfl) (v := _) (by (intro _ hSw; (try dsimp only at hSw); go_simp; try with_reducible rfl)) hHeld ?_
                    simp only [Act.put, List.setIfInBounds_toArray, List.set_cons_zero, List.set_cons_succ]
                    refine takeY 5 (some 82) rfl rfl (by kernel_rfl) (by kernel_rfl) (by kernel_rfl) (fun _ _ _ h => h) (by rfl) (v := _) (by (intro _ hSw; (try dsimp only at hSw); go_simp; try with_reducible rfl)) hHeld ?_
                    simp only [Act.put, List.setIfInBounds_toArray, List.set_cons_zero, List.set_cons_succ]
                    refine takeY 7 (some 84) rfl rfl (by kernel_rfl) (by kernel_rfl) (by kernel_rfl) (fun _ _ _ h => h) (by rfl) (v := _) (by (intro _ hSw; (try dsimp only at hSw); go_simp; try with_reducible rfl)) hHeld ?_
                    simp only [Act.put, List.setIfInBounds_toArray, List.set_cons_zero, List.set_cons_succ]
                    refine takeY 8 (some 85) rfl rfl (by kernel_rfl) (by kernel_rfl) (by kernel_rfl) (fun _ _ _ h => h) (by rfl) (v := _) (by (intro _ hSw; (try dsimp only at hSw); go_simp; try with_reducible rfl)) hHeld ?_
                    simp only [Act.put, List.setIfInBounds_toArray, List.set_cons_zero, List.set_cons_succ]
                    refine takeY 9 (some 86) rfl rfl (by kernel_rfl) (by kernel_rfl) (by kernel_rfl) (fun _ _ _ h => h) (by rfl) (v := _) (by (intro _ hSw; (try dsimp only at hSw); go_simp; try with_reducible rfl)) hHeld ?_
                    simp only [Act.put, List.setIfInBounds_toArray, List.set_cons_zero, List.set_cons_succ]
                    refine takeY 10 (some 87) rfl rfl (by kernel_rfl) (by kernel_rfl) (by kernel_rfl) (fun _ _ _ h => h) (by rfl) (v := _) (by (intro _ hSw; (try dsimp only at hSw); go_simp; try with_reducible rfl)) hHeld ?_
                    simp only [Act.put, List.setIfInBounds_toArray, List.set_cons_zero, List.set_cons_succ]
                    refine wpAnyH_ready (rs := [6]) (by kernel_rfl) (by simp) ?_
                    refine AllReadyH.cons rfl (fun K hK => ?_) AllReadyH.nil
                    clear hHeld
                    go_simp
                    go_wp2_with (go_at_call 18; refine Calls.mono (CP.out _ HD.out) ?_; rintro en wa ⟨A3, c3, rfl, hmd⟩; have HBa := Lib.hid (HD.out.trans hmd.bel); have HMa := Lib.hid hmd; clear hmd x0 x1 x2 x3 z0 z1 z2 z3; have bx := HK9.out.below HBa.out HK9.out.lt; have x0a := bx.cell 0; have x1a := bx.cell 1; have x2a := bx.cell 2; have x3a := bx.cell 3; simp only [List.getElem?_toArray, List.getElem?_cons_zero, List.getElem?_cons_succ] at x0a x1a x2a x3a; obtain ⟨z0a, z1a, z2a, z3a⟩ := HZ.out _ HBa.out; clear bx)
                    refine hK.out _ _ ⟨x0a, x1a, x2a, x3a, z0a, z1a, z2a, z3a⟩ (fun hHeld => ?_)
                    clear hK K
                    refine wpAnyH_ready (rs := [11]) (by kernel_rfl) (by simp) ?_
                    refine AllReadyH.cons rfl (fun K hK => ?_) AllReadyH.nil
                    clear hHeld
                    go_simp
                    go_wp2_with (go_at_call 14; refine Calls.mono (CS.out _ A3 c3 _ HBa.out HMa.out.at_ (by rw [← HPL.out]; exact HMa.out.len) HMa.out.cap) ?_; rintro en wb ⟨rfl, hb⟩; have HBb := Lib.hid (HBa.out.trans (hb.mono HBa.out.size)); clear hb x0a x1a x2a x3a z0a z1a z2a z3a; have bx := HK9.out.below HBb.out HK9.out.lt; have x0b := bx.cell 0; have x1b := bx.cell 1; have x2b := bx.cell 2; have x3b := bx.cell 3; simp only [List.getElem?_toArray, List.getElem?_cons_zero, List.getElem?_cons_succ] at x0b x1b x2b x3b; obtain ⟨z0b, z1b, z2b, z3b⟩ := HZ.out _ HBb.out; clear bx)
                    refine hK.out _ _ ⟨x0b, x1b, x2b, x3b, z0b, z1b, z2b, z3b⟩ (fun hHeld => ?_)
                    clear hK K
                    refine takeY 12 (some 89) rfl rfl (by kernel_rfl) (by kernel_rfl) (by kernel_rfl) (fun _ _ _ h => h) (by rfl) (v := _) (by (intro _ hSw; (try dsimp only at hSw); go_simp; try with_reducible rfl)) hHeld ?_
                    simp only [Act.put, List.setIfInBounds_toArray, List.set_cons_zero, List.set_cons_succ]
                    refine takeY 13 (some 90) rfl rfl (by kernel_rfl) (by kernel_rfl) (by kernel_rfl) (fun _ _ _ h => h) (by rfl) (v := _) (by (intro _ hSw; (try dsimp only at hSw); go_simp; try with_reducible rfl)) hHeld ?_
                    simp only [Act.put, List.setIfInBounds_toArray, List.set_cons_zero, List.set_cons_succ]
                    refine wpAnyH_done (by kernel_rfl) ?_ _
                    clear hHeld
                    go_wp2_with fail
                    go_meet
                    exact ⟨rfl, Lib.hid (HB9.out.trans (HBb.out.mono HB9.out.size))⟩
                case rest =>
                  obtain ⟨rfl, hX2⟩ := hcut
                  have HN : Hid (BW w0 wc g k l1 vb vt1) := Lib.hid (hJ.out.bel' hX2.out)
                  clear x0 x1 x2 x3 hJ hX2 HB7 HB8 HM8 HB9 HM9 HK9 HX HS9
                  go_wp2_with fail
                  go_roundw
                  case rel => exact ⟨i + 1, by omega, by go_num, HN⟩
                  case measure => simp [intOf]; omega
              · obtain rfl : k = i := by omega
                have hd2 : decide ((k : Int) < (k : Int)) = false := by simp
                go_wp2_with (go_at_call 9; refine (HWk.out _).mono ?_; rintro e w2 ⟨rfl, hb⟩; have HB2 := Lib.hid (hJ.out.bel.trans (hb.mono hJ.out.bel.size)); clear hb)
                go_ret
                exact ⟨rfl, HI.out.1.trans (HB2.out.mono HI.out.1.size)⟩
end Go.Proofs.Ytndhojnfjlkojaa
