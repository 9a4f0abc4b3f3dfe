/- types: TypesFree. -/
import Derived.Test.YtndhojnfjlkojaaMf
import Derived.Test.YtndhojnfjlkojaaFe
import Derived.Test.YtndhojnfjlkojaaSt
import Derived.Test.YtndhojnfjlkojaaPs
import Derived.Test.YtndhojnfjlkojaaWk
import Derived.Test.YtndhojnfjlkojaaB
import Derived.Test.YtndhojnfjlkojaaTake
namespace Go.Proofs.Ytndhojnfjlkojaa
open Go.RowKit
set_option linter.unusedVariables false
set_option linter.unusedSimpArgs false
attribute [local go_sem] Oper.semAt_some
open Ty
theorem run_mkB (w : World) : (Instr.makeSlice 46 (.int .i64 12) (.int .i64 12)).run Try.prog w = .ok (.slice (some ⟨w.heap.size, 0, none⟩) 12 12) (w.alloc (.cells (madeCells #[.bool false] 12) 4)) := by
  have hI : (Try.prog.info? 4).map (fun i => (i.zero, i.size, i.bytes)) = some (some (.bool false), 1, 1) := by kernel_rfl
  obtain ⟨i0, hi, hz0, hz1, hz2⟩ := info_parts hI
  have h := run_make (P := Try.prog) w 46 4 i0 (.bool false) Try.underlying46 hi hz0 .i64 .i64 12 12 (by omega) (by omega) (by rw [hz2]; omega) (by omega)
  simpa [hz1, Value.cells] using h
/-- Which unknowns were seen. -/
def Seen (w : World) (q : Nat) (fs : List Int) : Prop := ∃ cs : Array Value, Blk w q 4 cs ∧ cs.size = 12 ∧ ∀ j : Nat, j < 12 → cs[j]? = some (.bool (decide ((j : Int) ∈ fs)))
theorem Seen.bel {w w' : World} {q : Nat} {fs : List Int} (h : Seen w q fs) (hb : Below w.heap.size w w') : Seen w' q fs := by
  obtain ⟨cs, h1, h2⟩ := h
  exact ⟨cs, h1.below hb h1.lt, h2⟩
theorem Seen.get {w : World} {q : Nat} {fs : List Int} (h : Seen w q fs) {j : Nat} (hj : j < 12) : w.cell? ⟨q, j, none⟩ = some (.bool (decide ((j : Int) ∈ fs))) ∧ ∀ i, w.frozen? ⟨q, i, none⟩ = false := by
  obtain ⟨cs, h1, h2, h3⟩ := h
  exact ⟨(h1.cell j).trans (h3 j hj), h1.frozen⟩
theorem Seen.put {w : World} {q : Nat} {fs : List Int} (h : Seen w q fs) (n : Nat) : Seen (w.setCell ⟨q, n, none⟩ (.bool true)) q (fs ++ [(n : Int)]) := by
  obtain ⟨cs, h1, h2, h3⟩ := h
  refine ⟨_, h1.set_ n (.bool true), by simp [h2], fun j hj => ?_⟩
  rw [Array.getElem?_setIfInBounds]
  by_cases e : n = j
  · subst e
    rw [if_pos rfl, if_pos (by omega)]
    simp
  · rw [if_neg e, h3 j hj]
    have : ((j : Int) ∈ fs ++ [(n : Int)]) ↔ ((j : Int) ∈ fs) := by
      rw [List.mem_append, List.mem_singleton]
      exact ⟨fun h => h.elim id fun h => absurd (by omega) e, .inl⟩
    rw [decide_eq_decide.2 this]
theorem Seen.made (w : World) : Seen (w.alloc (.cells (madeCells #[.bool false] 12) 4)) w.heap.size [] := by
  refine ⟨_, Blk.new _ _ _, by simp [madeCells], fun j hj => ?_⟩
  simp [madeCells, hj, Nat.mod_one]
set_option maxRecDepth 20000 in
set_option maxHeartbeats 16000000 in
theorem free_law (m : Nat) (hm : m < 256) (L : Option Addr) (ll lc : Nat) (ps : List (Te × Te)) (t : Ty) (A : Option Addr) (c : Nat) (w : World) (ht : Tb w.heap.size w t A c) (hll : ps.length = ll) (hlc : ll ≤ lc) (hlm : lc ≤ maxLen) (hL : PsM w L ps) :
    Calls Try.prog 6 #[.int .u8 (m : Int), .slice L ll lc, t.val A c] w fun e w' => e = .returned (.bool true) ∧ Below w.heap.size w w' := by
  obtain ⟨k, hk⟩ : ∃ k, m % 12 = k := ⟨_, rfl⟩
  have hk2 : k < 12 := by omega
  have hmod : (m : Int).tmod 12 = (k : Int) := by rw [Int.tmod_eq_emod_of_nonneg (by omega)]; omega
  have HBo := Lib.hid fun W => books_any m hm W
  rw [hk] at HBo
  have HK := Lib.hid hk
  obtain ⟨tl, htl⟩ : ∃ tl, t.ks.length = tl := ⟨_, rfl⟩
  obtain ⟨w0, hw0⟩ : ∃ w0, w.alloc (.cells #[.int .u8 (t.k : Int), .string (str t.nm), .int .i64 t.n, .slice A tl c] 24) = w0 := ⟨_, rfl⟩
  have hb0 : Below w.heap.size w w0 := by rw [← hw0]; exact (Below.refl _ _).alloc (Nat.le_refl _) _
  have hT0 : Blk w0 w.heap.size 24 #[.int .u8 (t.k : Int), .string (str t.nm), .int .i64 t.n, .slice A tl c] := by rw [← hw0]; exact Blk.new _ _ _
  have hTb0 : Tb w0.heap.size w0 t A c := ⟨(ht.at_.bel hb0).now, ht.len, ht.cap, ht.ok⟩
  have hTb : ∀ W, Below w0.heap.size w0 W → Tb W.heap.size W t A c := fun W hW => ⟨(hTb0.at_.bel hW).now, ht.len, ht.cap, ht.ok⟩
  have hV : ∀ W, Below w0.heap.size w0 W → Calls Try.prog 8 #[t.val A c] W fun e w' => ∃ b, e = .returned (.bool b) ∧ (b = false → small t) ∧ Below W.heap.size W w' := fun W hW => vast_any t A c W (hTb W hW)
  unfold Ty.val at hV ⊢
  simp only [htl] at hV
  rw [htl]
  have HV := Lib.hid hV
  have HBk := Lib.hid hT0
  have HI := Lib.hid (And.intro hb0 (And.intro hTb0 (And.intro (hL.bel hb0) (And.intro hll htl))))
  have HTb := Lib.hid hTb
  have HWk := Lib.hid works_any
  have HR0 := Lib.hid (Below.refl w0.heap.size w0)
  have hmx : ll ≤ 9223372036854775807 := by unfold maxLen at hlm; omega
  clear hk hb0 hT0 hTb0 hTb hV ht hL hll htl
  have bx := HBk.out.below HR0.out HBk.out.lt
  have t0a := bx.cell 0
  have t1a := bx.cell 1
  have t2a := bx.cell 2
  have t3a := bx.cell 3
  simp only [List.getElem?_toArray, List.getElem?_cons_zero, List.getElem?_cons_succ] at t0a t1a t2a t3a
  clear bx
  go_enter Try.func6, Try.ntmps6
  go_upto_region 1 with fail
  (try rw [hw0])
  clear hw0
  by_cases hlen : 10 < ll
  · have q1 : decide ((ll : Int) > 10) = true := by simp; omega
    have q2 : decide (10 < ll) = true := by simp; omega
    go_wp2_with (go_at_call 9; refine (HWk.out _).mono ?_; rintro e w2 ⟨rfl, hb⟩; have HB2 := Lib.hid hb; clear hb)
    go_ret
    exact ⟨rfl, HI.out.1.trans (HB2.out.mono HI.out.1.size)⟩
  have q1 : decide ((ll : Int) > 10) = false := by simp; omega
  have q2 : decide (10 < ll) = false := by simp; omega
  go_upto_if 20 with (go_at_call 8; refine (HV.out _ HR0.out).mono ?_; rintro e w1 ⟨vb, rfl, hv, hb⟩; have HB1 := Lib.hid hb; have Hv := Lib.hid hv; clear hb hv t0a t1a t2a t3a)
  cases vb with
  | true =>
    go_wp2_with (go_at_call 9; refine (HWk.out _).mono ?_; rintro e w2 ⟨rfl, hb⟩; have HB2 := Lib.hid (HB1.out.trans (hb.mono HB1.out.size)); clear hb)
    go_ret
    exact ⟨rfl, HI.out.1.trans (HB2.out.mono HI.out.1.size)⟩
  | false =>
    have HSm : Hid (small t) := Lib.hid (by first | exact Hv.out rfl | exact Hv.out trivial)
    clear Hv
    go_upto_region 4 with (go_at_call 19; refine (HBo.out _).mono ?_; rintro e w5 ⟨g, r, vb, rfl, hn⟩; have HW5 : Hid (BW w0 w5 g k [] vb (.slice none 0 0)) := Lib.hid ⟨hn.bm, HB1.out.trans (hn.bel.mono HB1.out.size), fun b h => Nat.le_trans HB1.out.size (hn.mt b h)⟩; clear hn)
    go_wp2_with fail
    go_loopw [9] (fun iv wr => ∃ (i : Nat) (l1 : List (Int × Ty)) (S1 : Int → Ty) (vt : Value), i ≤ ll ∧ iv = .int .i64 (i : Int) ∧ Hid (BW w0 wr g k l1 vb vt ∧ Slv k (look l1) S1)) (fun iv _ => ll - (intOf iv).toNat)
    case atStart => exact ⟨0, [], tvar, _, Nat.zero_le _, rfl, Lib.hid ⟨HW5.out, Slv.start k⟩⟩
    case round =>
      obtain ⟨i, l1, S1, vt, hi, rfl, hJ⟩ := hrel
      by_cases hli : i < ll
      · have hd : decide ((i : Int) < (ll : Int)) = true := by simpa using hli
        obtain ⟨⟨⟨x, Ax, cx⟩, ⟨y, Ay, cy⟩⟩, hp⟩ : ∃ p, ps[i]? = some p := ⟨_, List.getElem?_eq_getElem (by rw [HI.out.2.2.2.1]; exact hli)⟩
        obtain ⟨b1, o1, rfl, hbl, hc1, hc2, hx, hy⟩ := HI.out.2.2.1 i _ hp
        obtain ⟨xl, hxl⟩ : ∃ xl, x.ks.length = xl := ⟨_, rfl⟩
        obtain ⟨yl, hyl⟩ : ∃ yl, y.ks.length = yl := ⟨_, rfl⟩
        have hcx : ∀ (j : Nat) (v : Value), [Value.int .u8 (x.k : Int), .string (str x.nm), .int .i64 x.n, .slice Ax xl cx][j]? = some v → w0.cell? ⟨b1, o1 + i * 8 + j, none⟩ = some v := fun j v hj => hc1 j v (by rw [← hxl] at hj; exact hj)
        have hcy : ∀ (j : Nat) (v : Value), [Value.int .u8 (y.k : Int), .string (str y.nm), .int .i64 y.n, .slice Ay yl cy][j]? = some v → w0.cell? ⟨b1, o1 + i * 8 + (4 + j), none⟩ = some v := fun j v hj => hc2 j v (by rw [← hyl] at hj; exact hj)
        have HZ : Hid (∀ W, Below w0.heap.size w0 W → W.cell? ⟨b1, o1 + i * 8, none⟩ = some (.int .u8 (x.k : Int)) ∧ W.cell? ⟨b1, o1 + i * 8 + 1, none⟩ = some (.string (str x.nm)) ∧ W.cell? ⟨b1, o1 + i * 8 + 2, none⟩ = some (.int .i64 x.n) ∧ W.cell? ⟨b1, o1 + i * 8 + 3, none⟩ = some (.slice Ax xl cx) ∧ W.cell? ⟨b1, o1 + i * 8 + 4, none⟩ = some (.int .u8 (y.k : Int)) ∧ W.cell? ⟨b1, o1 + i * 8 + 4 + 1, none⟩ = some (.string (str y.nm)) ∧ W.cell? ⟨b1, o1 + i * 8 + 4 + 2, none⟩ = some (.int .i64 y.n) ∧ W.cell? ⟨b1, o1 + i * 8 + 4 + 3, none⟩ = some (.slice Ay yl cy)) := Lib.hid fun W hW => ⟨(hW.cell (p := ⟨b1, _, none⟩) hbl).trans (hcx 0 _ rfl), (hW.cell (p := ⟨b1, _, none⟩) hbl).trans (hcx 1 _ rfl), (hW.cell (p := ⟨b1, _, none⟩) hbl).trans (hcx 2 _ rfl), (hW.cell (p := ⟨b1, _, none⟩) hbl).trans (hcx 3 _ rfl), (hW.cell (p := ⟨b1, _, none⟩) hbl).trans (hcy 0 _ rfl), (hW.cell (p := ⟨b1, _, none⟩) hbl).trans (by rw [Nat.add_assoc]; exact hcy 1 _ rfl), (hW.cell (p := ⟨b1, _, none⟩) hbl).trans (by rw [Nat.add_assoc]; exact hcy 2 _ rfl), (hW.cell (p := ⟨b1, _, none⟩) hbl).trans (by rw [Nat.add_assoc]; exact hcy 3 _ rfl)⟩
        have HX := Lib.hid (And.intro hx (And.intro hy (And.intro hxl hyl)))
        have hVx : ∀ W, Below w0.heap.size w0 W → Calls Try.prog 8 #[x.val Ax cx] W fun e w' => ∃ b, e = .returned (.bool b) ∧ Below W.heap.size W w' := fun W hW => (vast_any x Ax cx W ⟨(hx.at_.bel hW).now, hx.len, hx.cap, hx.ok⟩).mono fun e w' ⟨b, h1, _, h2⟩ => ⟨b, h1, h2⟩
        have hVy : ∀ W, Below w0.heap.size w0 W → Calls Try.prog 8 #[y.val Ay cy] W fun e w' => ∃ b, e = .returned (.bool b) ∧ Below W.heap.size W w' := fun W hW => (vast_any y Ay cy W ⟨(hy.at_.bel hW).now, hy.len, hy.cap, hy.ok⟩).mono fun e w' ⟨b, h1, _, h2⟩ => ⟨b, h1, h2⟩
        have hU : ∀ W, BW w0 W g k l1 vb vt → Calls Try.prog 20 #[.pointer (some ⟨g, 0, none⟩), x.val Ax cx, y.val Ay cy] W (UnR W g k vb vt x y l1 S1) := fun W hW => Unify_any hJ.out.2 x y Ax Ay cx cy (hW.old hx) (hW.old hy) hW.bm
        unfold Ty.val at hVx hVy hU
        simp only [hxl] at hVx hU
        simp only [hyl] at hVy hU
        have HVx := Lib.hid hVx
        have HVy := Lib.hid hVy
        have HU := Lib.hid hU
        clear hp hbl hc1 hc2 hx hy hxl hyl hcx hcy hVx hVy hU
        obtain ⟨y0a, y1a, y2a, y3a, z0a, z1a, z2a, z3a⟩ := HZ.out _ hJ.out.1.bel
        go_upto_region 7 with fail
        go_cut [46] from 27 to 59 (fun s46 wx => ∃ b : Bool, s46 = .bool b ∧ Hid (Below wr.heap.size wr wx))
        case first =>
          go_wp2_with (first | (go_at_call_of 8 (Value.string (str x.nm)); refine (HVx.out _ hJ.out.1.bel).mono ?_; rintro e w6 ⟨vx, rfl, hb⟩; have HB6 := Lib.hid hb; have HB6' := Lib.hid (hJ.out.1.bel.trans (hb.mono hJ.out.1.bel.size)); clear hb y0a y1a y2a y3a z0a z1a z2a z3a; obtain ⟨y0b, y1b, y2b, y3b, z0b, z1b, z2b, z3b⟩ := HZ.out _ HB6'.out; cases vx) | (go_at_call_of 8 (Value.string (str y.nm)); refine (HVy.out _ HB6'.out).mono ?_; rintro e w7 ⟨vy, rfl, hb⟩; have HB7 := Lib.hid (HB6.out.trans (hb.mono HB6.out.size)); clear hb y0b y1b y2b y3b z0b z1b z2b z3b))
          all_goals
            go_meet
            first | exact ⟨_, rfl, HB7⟩ | exact ⟨_, rfl, HB6⟩
        case rest =>
          obtain ⟨b, rfl, hX⟩ := hcut
          clear y0a y1a y2a y3a z0a z1a z2a z3a HVx HVy
          have HW7 := Lib.hid (hJ.out.1.bel' hX.out)
          cases b with
          | true =>
            go_wp2_with (go_at_call 9; refine (HWk.out _).mono ?_; rintro e w8 ⟨rfl, hb⟩; have HB8 := Lib.hid (HW7.out.bel.trans (hb.mono HW7.out.bel.size)); clear hb)
            go_ret
            exact ⟨rfl, HI.out.1.trans (HB8.out.mono HI.out.1.size)⟩
          | false =>
            obtain ⟨y0c, y1c, y2c, y3c, z0c, z1c, z2c, z3c⟩ := HZ.out _ HW7.out.bel
            have HD := Lib.hid (HW7.out.bel' (Below.drew (Below.refl wc.heap.size wc)))
            have HD1 := Lib.hid (HW7.out.bel' (Below.drewN1 (Below.refl wc.heap.size wc) 1))
            go_upto_region 9 with fail
            go_still_tail 11, (by kernel_rfl)
            go_wp2_with fail
            first
              | refine (HU.out _ HD.out).mono ?_
              | refine (HU.out _ HD1.out).mono ?_
            rintro en w8 ⟨e, l2, S2, vt2, rfl, k1, k2, k3, k4⟩
            have HN : Hid (BW w0 w8 g k l2 vb vt2 ∧ Slv k (look l2) S2) := Lib.hid ⟨by first | exact HD.out.step k3 k4 | exact HD1.out.step k3 k4, k2⟩
            clear k1 k2 k3 k4 HD HD1 HU HW7 hX hJ y0c y1c y2c y3c z0c z1c z2c z3c
            go_wp2_with fail
            go_roundw
            case rel => exact ⟨i + 1, l2, S2, vt2, by omega, by go_num, HN⟩
            case measure => simp [intOf]; omega
      · obtain rfl : ll = i := by omega
        have hd : decide ((ll : Int) < (ll : Int)) = false := by simp
        obtain ⟨rt, hrt⟩ : ∃ rt, t.right = rt := ⟨_, rfl⟩
        obtain ⟨x, hx⟩ : ∃ x, applyT k S1 t = x := ⟨_, rfl⟩
        obtain ⟨xl, hxl⟩ : ∃ xl, x.ks.length = xl := ⟨_, rfl⟩
        have htl := HI.out.2.2.2.2
        have e1 : t.val A c = .agg #[.int .u8 (t.k : Int), .string (str t.nm), .int .i64 t.n, .slice A tl c] := by unfold Ty.val; rw [htl]
        have CR : Hid (∀ W, Below w0.heap.size w0 W → Calls Try.prog 12 #[.agg #[.int .u8 (t.k : Int), .string (str t.nm), .int .i64 t.n, .slice A tl c]] W fun e w' => e = .returned (.bool rt) ∧ Below W.heap.size W w') := Lib.hid fun W hW => by
          have h := rright_any t A c W (HTb.out W hW).at_ (HTb.out W hW).len (HTb.out W hW).cap
          rw [e1, hrt] at h
          exact h
        have CF : Hid (∀ W, BW w0 W g k l1 vb vt → Calls Try.prog 24 #[.pointer (some ⟨g, 0, none⟩), .agg #[.int .u8 (t.k : Int), .string (str t.nm), .int .i64 t.n, .slice A tl c]] W (FreeR W k S1 t)) := Lib.hid fun W hW => by
          have h := Free_any hJ.out.2 t A c (hW.old HI.out.2.1) hW.bm
          rw [e1] at h
          exact h
        have CA : Hid (∀ W, BW w0 W g k l1 vb vt → Calls Try.prog 22 #[.pointer (some ⟨g, 0, none⟩), .agg #[.int .u8 (t.k : Int), .string (str t.nm), .int .i64 t.n, .slice A tl c]] W fun en w' => ∃ A2 c2, en = .returned (.agg #[.int .u8 (x.k : Int), .string (str x.nm), .int .i64 x.n, .slice A2 xl c2]) ∧ Made W w' x A2 c2) := Lib.hid fun W hW => by
          obtain ⟨Ab, cb, hvb, _, _⟩ := hW.bm.shape
          have h := Apply_any hJ.out.2 t A c W (by have := HSm.out.1; omega) (hW.old HI.out.2.1).tb (hvb ▸ hW.bm : BM W g k l1 (.slice Ab k cb) vt).bk
          rw [e1, hx] at h
          unfold Ty.val at h
          rw [hxl] at h
          exact h
        have HX := Lib.hid (And.intro hrt (And.intro hx (And.intro hxl htl)))
        clear hrt hx hxl htl e1
        have bx := HBk.out.below hJ.out.1.bel HBk.out.lt
        have t0b := bx.cell 0
        have t1b := bx.cell 1
        have t2b := bx.cell 2
        have t3b := bx.cell 3
        simp only [List.getElem?_toArray, List.getElem?_cons_zero, List.getElem?_cons_succ] at t0b t1b t2b t3b
        clear bx
        go_upto_if 62 with (go_at_call 12; refine (CR.out _ hJ.out.1.bel).mono ?_; rintro e w6 ⟨rfl, hb⟩; have HW6 := Lib.hid (hJ.out.1.bel' hb); clear hb t0b t1b t2b t3b)
        cases rt with
        | false =>
          have hng : ¬ good k t := fun h => by have h1 := h.1; rw [HX.out.1] at h1; cases h1
          have hxt : x = t := by rw [← HX.out.2.1]; unfold applyT; rw [if_neg hng]
          have HF0 : Hid (∀ fs : List Int, (∀ f ∈ fs, good k t ∧ ¬ great (t.sub S1) ∧ f ∈ (t.sub S1).nums) → fs = []) := Lib.hid fun fs h => free_none h fun hh => hng hh.1
          have CS : Hid (∀ (W : World) (A2 : Option Addr) (c2 : Nat) (F : Nat → Prop), Below w0.heap.size w0 W → Ty.At F W A2 x.ks → xl ≤ c2 → c2 ≤ maxLen → Calls Try.prog 14 #[.agg #[.int .u8 (x.k : Int), .string (str x.nm), .int .i64 x.n, .slice A2 xl c2], .agg #[.int .u8 (t.k : Int), .string (str t.nm), .int .i64 t.n, .slice A tl c]] W fun e w' => e = .returned (.bool true) ∧ Below W.heap.size W w') := Lib.hid fun W A2 c2 F hW k1 k2 k3 => by
            have h := rsame_any x x A2 c2 A c W k1 (by rw [HX.out.2.2.1]; exact k2) k3 (by rw [hxt]; exact (HTb.out W hW).at_)
            rw [same_refl] at h
            unfold Ty.val at h
            rw [HX.out.2.2.1] at h
            have e2 : Value.agg #[.int .u8 (x.k : Int), .string (str x.nm), .int .i64 x.n, .slice A xl c] = .agg #[.int .u8 (t.k : Int), .string (str t.nm), .int .i64 t.n, .slice A tl c] := by rw [← HX.out.2.2.1, hxt, HX.out.2.2.2]
            rw [e2] at h
            exact h
          clear hng hxt
          have bx := HBk.out.below HW6.out.bel HBk.out.lt
          have t0c := bx.cell 0
          have t1c := bx.cell 1
          have t2c := bx.cell 2
          have t3c := bx.cell 3
          simp only [List.getElem?_toArray, List.getElem?_cons_zero, List.getElem?_cons_succ] at t0c t1c t2c t3c
          clear bx
          have HD := Lib.hid (HW6.out.bel' (Below.drew (Below.refl w6.heap.size w6)))
          go_upto_region 11 with fail
          refine wp_region_held_drew (S := (fun W => W.cell? ⟨w.heap.size, 0, none⟩ = some (.int .u8 (t.k : Int)) ∧ W.cell? ⟨w.heap.size, 1, none⟩ = some (.string (str t.nm)) ∧ W.cell? ⟨w.heap.size, 2, none⟩ = some (.int .i64 t.n) ∧ W.cell? ⟨w.heap.size, 3, none⟩ = some (.slice A tl c))) (by kernel_rfl) ⟨t0c, t1c, t2c, t3c⟩ (fun hHeld => ?_)
          refine takeY 0 (some 63) rfl rfl (by kernel_rfl) (by kernel_rfl) (by kernel_rfl) (fun _ _ _ h => h) (by rfl) (v := _) (by (intro _ hSw; (try dsimp only at hSw); go_simp; try with_reducible rfl)) hHeld ?_
          simp only [Act.put, List.setIfInBounds_toArray, List.set_cons_zero, List.set_cons_succ]
          refine takeY 1 (some 64) rfl rfl (by kernel_rfl) (by kernel_rfl) (by kernel_rfl) (fun _ _ _ h => h) (by rfl) (v := _) (by (intro _ hSw; (try dsimp only at hSw); go_simp; try with_reducible rfl)) hHeld ?_
          simp only [Act.put, List.setIfInBounds_toArray, List.set_cons_zero, List.set_cons_succ]
          refine wpAnyH_ready (rs := [2]) (by kernel_rfl) (by simp) ?_
          refine AllReadyH.cons rfl (fun K hK => ?_) AllReadyH.nil
          clear hHeld
          go_simp
          go_wp2_with (go_at_call 24; refine Calls.mono (CF.out _ HD.out) ?_; rintro en w7 ⟨A', n, c', fs, rfl, hn, _, hb, _, hf⟩; obtain rfl : n = 0 := (by rw [← hn, HF0.out fs hf, List.length_nil]); have HW7 := Lib.hid (HD.out.bel' hb); clear hn hb hf t0c t1c t2c t3c; have bx := HBk.out.below HW7.out.bel HBk.out.lt; have t0d := bx.cell 0; have t1d := bx.cell 1; have t2d := bx.cell 2; have t3d := bx.cell 3; simp only [List.getElem?_toArray, List.getElem?_cons_zero, List.getElem?_cons_succ] at t0d t1d t2d t3d; clear bx)
          refine hK.out _ _ ⟨t0d, t1d, t2d, t3d⟩ (fun hHeld => ?_)
          clear hK K
          refine takeY 3 (some 66) rfl rfl (by kernel_rfl) (by kernel_rfl) (by kernel_rfl) (fun _ _ _ h => h) (by rfl) (v := _) (by (intro _ hSw; (try dsimp only at hSw); go_simp; try with_reducible rfl)) hHeld ?_
          simp only [Act.put, List.setIfInBounds_toArray, List.set_cons_zero, List.set_cons_succ]
          refine takeY 4 (some 67) rfl rfl (by kernel_rfl) (by kernel_rfl) (by kernel_rfl) (fun _ _ _ h => h) (by rfl) (v := _) (by (intro _ hSw; (try dsimp only at hSw); go_simp; try with_reducible rfl)) hHeld ?_
          simp only [Act.put, List.setIfInBounds_toArray, List.set_cons_zero, List.set_cons_succ]
          refine takeY 5 (some 68) rfl rfl (by kernel_rfl) (by kernel_rfl) (by kernel_rfl) (fun _ _ _ h => h) (by rfl) (v := _) (by (intro _ hSw; (try dsimp only at hSw); go_simp; try with_reducible rfl)) hHeld ?_
          simp only [Act.put, List.setIfInBounds_toArray, List.set_cons_zero, List.set_cons_succ]
          refine takeY 6 (some 69) rfl rfl (by kernel_rfl) (by kernel_rfl) (by kernel_rfl) (fun _ _ _ h => h) (by rfl) (v := _) (by (intro _ hSw; (try dsimp only at hSw); go_simp; try with_reducible rfl)) hHeld ?_
          simp only [Act.put, List.setIfInBounds_toArray, List.set_cons_zero, List.set_cons_succ]
          refine takeY 7 (some 70) rfl rfl (by kernel_rfl) (by kernel_rfl) (by kernel_rfl) (fun _ _ _ h => h) (by rfl) (v := _) (by (intro _ hSw; (try dsimp only at hSw); go_simp; try with_reducible rfl)) hHeld ?_
          simp only [Act.put, List.setIfInBounds_toArray, List.set_cons_zero, List.set_cons_succ]
          refine takeY 9 (some 72) rfl rfl (by kernel_rfl) (by kernel_rfl) (by kernel_rfl) (fun _ _ _ h => h) (by rfl) (v := _) (by (intro _ hSw; (try dsimp only at hSw); go_simp; try with_reducible rfl)) hHeld ?_
          simp only [Act.put, List.setIfInBounds_toArray, List.set_cons_zero, List.set_cons_succ]
          refine wpAnyH_ready (rs := [8]) (by kernel_rfl) (by simp) ?_
          refine AllReadyH.cons rfl (fun K hK => ?_) AllReadyH.nil
          clear hHeld
          go_simp
          go_wp2_with (go_at_call 22; refine Calls.mono (CA.out _ HW7.out) ?_; rintro en w8 ⟨A2, c2, rfl, hmd⟩; have HW8 := Lib.hid (HW7.out.bel' hmd.bel); have HMd := Lib.hid hmd; clear hmd t0d t1d t2d t3d; have bx := HBk.out.below HW8.out.bel HBk.out.lt; have t0e := bx.cell 0; have t1e := bx.cell 1; have t2e := bx.cell 2; have t3e := bx.cell 3; simp only [List.getElem?_toArray, List.getElem?_cons_zero, List.getElem?_cons_succ] at t0e t1e t2e t3e; clear bx)
          refine hK.out _ _ ⟨t0e, t1e, t2e, t3e⟩ (fun hHeld => ?_)
          clear hK K
          refine wpAnyH_ready (rs := [10]) (by kernel_rfl) (by simp) ?_
          refine AllReadyH.cons rfl (fun K hK => ?_) AllReadyH.nil
          clear hHeld
          go_simp
          go_wp2_with (go_at_call 14; refine Calls.mono (CS.out _ A2 c2 _ HW8.out.bel HMd.out.at_ (by rw [← HX.out.2.2.1]; exact HMd.out.len) HMd.out.cap) ?_; rintro en w9 ⟨rfl, hb⟩; have HW9 := Lib.hid (HW8.out.bel' hb); clear hb t0e t1e t2e t3e; have bx := HBk.out.below HW9.out.bel HBk.out.lt; have t0f := bx.cell 0; have t1f := bx.cell 1; have t2f := bx.cell 2; have t3f := bx.cell 3; simp only [List.getElem?_toArray, List.getElem?_cons_zero, List.getElem?_cons_succ] at t0f t1f t2f t3f; clear bx)
          refine hK.out _ _ ⟨t0f, t1f, t2f, t3f⟩ (fun hHeld => ?_)
          clear hK K
          refine takeY 11 (some 74) rfl rfl (by kernel_rfl) (by kernel_rfl) (by kernel_rfl) (fun _ _ _ h => h) (by rfl) (v := _) (by (intro _ hSw; (try dsimp only at hSw); go_simp; try with_reducible rfl)) hHeld ?_
          simp only [Act.put, List.setIfInBounds_toArray, List.set_cons_zero, List.set_cons_succ]
          refine takeY 12 (some 75) rfl rfl (by kernel_rfl) (by kernel_rfl) (by kernel_rfl) (fun _ _ _ h => h) (by rfl) (v := _) (by (intro _ hSw; (try dsimp only at hSw); go_simp; try with_reducible rfl)) hHeld ?_
          simp only [Act.put, List.setIfInBounds_toArray, List.set_cons_zero, List.set_cons_succ]
          refine wpAnyH_ready (rs := [13]) (by kernel_rfl) (by simp) ?_
          refine AllReadyH.cons rfl (fun K hK => ?_) AllReadyH.nil
          clear hHeld
          go_simp
          go_wp2_with (go_at_call 9; refine Calls.mono (HWk.out _) ?_; rintro en wa ⟨rfl, hb⟩; have HWa := Lib.hid (HW9.out.bel' hb); clear hb t0f t1f t2f t3f; have bx := HBk.out.below HWa.out.bel HBk.out.lt; have t0g := bx.cell 0; have t1g := bx.cell 1; have t2g := bx.cell 2; have t3g := bx.cell 3; simp only [List.getElem?_toArray, List.getElem?_cons_zero, List.getElem?_cons_succ] at t0g t1g t2g t3g; clear bx)
          refine hK.out _ _ ⟨t0g, t1g, t2g, t3g⟩ (fun hHeld => ?_)
          clear hK K
          refine takeY 14 (some 77) rfl rfl (by kernel_rfl) (by kernel_rfl) (by kernel_rfl) (fun _ _ _ h => h) (by rfl) (v := _) (by (intro _ hSw; (try dsimp only at hSw); go_simp; try with_reducible rfl)) hHeld ?_
          simp only [Act.put, List.setIfInBounds_toArray, List.set_cons_zero, List.set_cons_succ]
          refine takeY 15 (some 6) rfl rfl (by kernel_rfl) (by kernel_rfl) (by kernel_rfl) (fun _ _ _ h => h) (by rfl) (v := _) (by (intro _ hSw; (try dsimp only at hSw); go_simp; try with_reducible rfl)) hHeld ?_
          simp only [Act.put, List.setIfInBounds_toArray, List.set_cons_zero, List.set_cons_succ]
          refine wpAnyH_done (by kernel_rfl) ?_ _
          clear hHeld
          go_wp2_with fail
          go_ret
          exact ⟨rfl, HI.out.1.trans (HWa.out.bel.mono HI.out.1.size)⟩
        | true =>
          have bx := HBk.out.below HW6.out.bel HBk.out.lt
          have t0c := bx.cell 0
          have t1c := bx.cell 1
          have t2c := bx.cell 2
          have t3c := bx.cell 3
          simp only [List.getElem?_toArray, List.getElem?_cons_zero, List.getElem?_cons_succ] at t0c t1c t2c t3c
          clear bx
          go_upto_region 13 with (go_at_call 22; refine (CA.out _ HW6.out).mono ?_; rintro en w8 ⟨A2, c2, rfl, hmd⟩; have HW8 := Lib.hid (HW6.out.bel' hmd.bel); have HMd := Lib.hid hmd; clear hmd t0c t1c t2c t3c)
          obtain ⟨w9, hw9⟩ : ∃ w9, w8.alloc (.cells #[.int .u8 (x.k : Int), .string (str x.nm), .int .i64 x.n, .slice A2 xl c2] 24) = w9 := ⟨_, rfl⟩
          have hb9 : Below w8.heap.size w8 w9 := by rw [← hw9]; exact (Below.refl _ _).alloc (Nat.le_refl _) _
          have hk9 : Blk w9 w8.heap.size 24 #[.int .u8 (x.k : Int), .string (str x.nm), .int .i64 x.n, .slice A2 xl c2] := by rw [← hw9]; exact Blk.new _ _ _
          obtain ⟨px, hpx⟩ : ∃ px, w8.heap.size = px := ⟨_, rfl⟩
          (try rw [hw9])
          (try rw [hpx])
          rw [hpx] at hk9
          have HW9 := Lib.hid (HW8.out.bel' hb9)
          have HK9 := Lib.hid hk9
          have HT9 : Hid (Tb w9.heap.size w9 x A2 c2) := Lib.hid ⟨(HMd.out.at_.bel hb9).now, HMd.out.len, HMd.out.cap, HMd.out.ok⟩
          clear hw9 hb9 hk9 hpx HMd
          have x0 := HK9.out.cell 0
          have x1 := HK9.out.cell 1
          have x2 := HK9.out.cell 2
          have x3 := HK9.out.cell 3
          simp only [List.getElem?_toArray, List.getElem?_cons_zero, List.getElem?_cons_succ] at x0 x1 x2 x3
          by_cases hxk : x.k = 0
          case pos =>
            have q3 : ((x.k : Int) == 0) = true := by simp [hxk]
            have HF0 : Hid (∀ fs : List Int, (∀ f ∈ fs, good k t ∧ ¬ great (t.sub S1) ∧ f ∈ (t.sub S1).nums) → fs = []) := Lib.hid fun fs h => free_zero hJ.out.2 h (by rw [HX.out.2.1]; exact hxk)
            clear hxk
            have bx := HBk.out.below HW9.out.bel HBk.out.lt
            have t0d := bx.cell 0
            have t1d := bx.cell 1
            have t2d := bx.cell 2
            have t3d := bx.cell 3
            simp only [List.getElem?_toArray, List.getElem?_cons_zero, List.getElem?_cons_succ] at t0d t1d t2d t3d
            clear bx
            go_wp2_with (first | (go_at_call 24; refine (CF.out _ HW9.out).mono ?_; rintro en wa ⟨A', n, c', fs, rfl, hn, _, hb, _, hf⟩; obtain rfl : n = 0 := (by rw [← hn, HF0.out fs hf, List.length_nil]); have HWa := Lib.hid (HW9.out.bel' hb); clear hn hb hf x0 x1 x2 x3 t0d t1d t2d t3d) | (go_at_call 9; refine (HWk.out _).mono ?_; rintro en wb ⟨rfl, hb⟩; have HWb := Lib.hid (HWa.out.bel' hb); clear hb))
            go_ret
            exact ⟨rfl, HI.out.1.trans (HWb.out.bel.mono HI.out.1.size)⟩
          have q3 : ((x.k : Int) == 0) = false := by simp [hxk]
          have HXK := Lib.hid hxk
          clear hxk
          have bx := HBk.out.below HW9.out.bel HBk.out.lt
          have t0d := bx.cell 0
          have t1d := bx.cell 1
          have t2d := bx.cell 2
          have t3d := bx.cell 3
          simp only [List.getElem?_toArray, List.getElem?_cons_zero, List.getElem?_cons_succ] at t0d t1d t2d t3d
          clear bx
          go_upto_region 16 with (go_at_call 24; refine (CF.out _ HW9.out).mono ?_; rintro en wb ⟨A', n, c', fs, rfl, hn, hrow, hb, hnd, hf⟩; have HWb := Lib.hid (HW9.out.bel' hb); have HKb := Lib.hid (HK9.out.below hb HK9.out.lt); have HTb9 : Hid (Tb wb.heap.size wb x A2 c2) := Lib.hid ⟨(HT9.out.at_.bel hb).now, HT9.out.len, HT9.out.cap, HT9.out.ok⟩; have HFr := Lib.hid (And.intro hn (And.intro (own_base hrow (Nat.zero_le _)) (And.intro hnd hf))); clear hn hrow hb hnd hf x0 x1 x2 x3 t0d t1d t2d t3d)
          have hmk := run_mkB
          go_upto_region 17 with fail
          obtain ⟨wq, hwq⟩ : ∃ wq, wb.alloc (.cells (madeCells #[.bool false] 12) 4) = wq := ⟨_, rfl⟩
          have hbq : Below wb.heap.size wb wq := by rw [← hwq]; exact (Below.refl _ _).alloc (Nat.le_refl _) _
          have hsq : Seen wq wb.heap.size [] := by rw [← hwq]; exact Seen.made wb
          obtain ⟨q, hqq⟩ : ∃ q, wb.heap.size = q := ⟨_, rfl⟩
          (try rw [hwq])
          (try rw [hqq])
          rw [hqq] at hsq
          have HQ := Lib.hid (And.intro hbq (And.intro hsq hqq))
          clear hwq hbq hsq hqq hmk
          have HSl := Lib.hid hJ.out.2
          clear hJ
          go_wp2_with fail
          go_loopw [13] (fun iv wr => ∃ i : Nat, i ≤ n ∧ iv = .int .i64 (i : Int) ∧ Hid (Below wb.heap.size wb wr ∧ Seen wr q (fs.take i))) (fun iv _ => n - (intOf iv).toNat)
          case atStart => exact ⟨0, Nat.zero_le _, rfl, Lib.hid ⟨HQ.out.1, by rw [List.take_zero]; exact HQ.out.2.1⟩⟩
          case round =>
            obtain ⟨i, hi, rfl, hJ⟩ := hrel
            by_cases hli : i < n
            · have hd3 : decide ((i : Int) < (n : Int)) = true := by simpa using hli
              obtain ⟨f, hfi⟩ : ∃ f, fs[i]? = some f := ⟨_, List.getElem?_eq_getElem (by rw [HFr.out.1]; exact hli)⟩
              obtain ⟨f0, f1, f2, f3⟩ := free_in HSl.out (HFr.out.2.2.2 f (List.mem_of_getElem? hfi))
              rw [HX.out.2.1] at f2
              obtain ⟨fn, rfl⟩ : ∃ fn : Nat, f = (fn : Int) := ⟨f.toNat, by omega⟩
              have hfk : fn < k := by omega
              have hf12 : fn < 12 := by omega
              have hf12i : (fn : Int) < 12 := by omega
              have hf12d : decide ((fn : Int) < 12) = true := by simp; omega
              have hns : ¬ ((fn : Int) ∈ fs.take i) := fun h => by
                obtain ⟨j, hj⟩ := List.getElem?_of_mem h
                have hji : j < i := by have := (List.getElem?_eq_some_iff.1 hj).1; rw [List.length_take] at this; omega
                rw [List.getElem?_take_of_lt hji] at hj
                have hjl := (List.getElem?_eq_some_iff.1 hj).1
                have hil := (List.getElem?_eq_some_iff.1 hfi).1
                have h1 := (List.getElem?_eq_some_iff.1 hj).2
                have h2 := (List.getElem?_eq_some_iff.1 hfi).2
                have h3 := (List.nodup_iff_pairwise_ne.1 HFr.out.2.2.1 |> List.pairwise_iff_getElem.1) j i hjl hil hji
                exact h3 (h1.trans h2.symm)
              obtain ⟨bf, cf, ef, hbf, hcf, _⟩ := own_get1 HFr.out.2.1 hli
              cases ef
              rw [List.getElem?_map, hfi] at hcf
              obtain ⟨hs0, hsf⟩ := hJ.out.2.get hf12
              rw [decide_eq_false hns] at hs0
              have hcq : wr.cell? ⟨bf, i, none⟩ = some (.int .i64 (fn : Int)) := (hJ.out.1.cell (p := ⟨bf, i, none⟩) hbf).trans hcf
              have HKx := Lib.hid (HKb.out.below hJ.out.1 HKb.out.lt)
              have HTx : Hid (Tb wr.heap.size wr x A2 c2) := Lib.hid ⟨(HTb9.out.at_.bel hJ.out.1).now, HTb9.out.len, HTb9.out.cap, HTb9.out.ok⟩
              have HWr := Lib.hid (HWb.out.bel' hJ.out.1)
              have HZ : Hid (∀ W, Below wr.heap.size wr W → W.cell? ⟨bf, i, none⟩ = some (.int .i64 (fn : Int)) ∧ W.cell? ⟨q, fn, none⟩ = some (.bool false) ∧ W.cell? ⟨px, 0, none⟩ = some (.int .u8 (x.k : Int)) ∧ W.cell? ⟨px, 1, none⟩ = some (.string (str x.nm)) ∧ W.cell? ⟨px, 2, none⟩ = some (.int .i64 x.n) ∧ W.cell? ⟨px, 3, none⟩ = some (.slice A2 xl c2)) := Lib.hid fun W hW => by
                have b1 := HKx.out.below hW HKx.out.lt
                have k0 := b1.cell 0
                have k1 := b1.cell 1
                have k2 := b1.cell 2
                have k3 := b1.cell 3
                simp only [List.getElem?_toArray, List.getElem?_cons_zero, List.getElem?_cons_succ] at k0 k1 k2 k3
                exact ⟨(hW.cell (p := ⟨bf, i, none⟩) (World.block_lt_of_cell? _ _ hcq)).trans hcq, (hW.cell (p := ⟨q, fn, none⟩) (World.block_lt_of_cell? _ _ hs0)).trans hs0, k0, k1, k2, k3⟩
              have CT : Hid (∀ W, Below wr.heap.size wr W → Calls Try.prog 25 #[.agg #[.int .u8 (x.k : Int), .string (str x.nm), .int .i64 x.n, .slice A2 xl c2], .int .i64 (fn : Int)] W fun e w' => e = .returned (.bool true) ∧ Below W.heap.size W w') := Lib.hid fun W hW => by
                have h := stands_any (fn : Int) x A2 c2 W (HTx.out.bel hW).at_ HTx.out.len HTx.out.cap
                rw [decide_eq_true f2] at h
                unfold Ty.val at h
                rw [HX.out.2.2.1] at h
                exact h
              have CV := Lib.hid (rvar_any (fn : Int))
              have CAv : Hid (∀ W, Below wr.heap.size wr W → Calls Try.prog 22 #[.pointer (some ⟨g, 0, none⟩), .agg #[.int .u8 1, .string ⟨#[]⟩, .int .i64 (fn : Int), .slice none 0 0]] W fun en w' => ∃ A3 c3, en = .returned (.agg #[.int .u8 1, .string ⟨#[]⟩, .int .i64 (fn : Int), .slice A3 0 c3]) ∧ c3 ≤ maxLen ∧ Below W.heap.size W w') := Lib.hid fun W hW => by
                have hB := HWr.out.bm.bel hW
                obtain ⟨Ab, cb, hvb, _, _⟩ := hB.shape
                have h := Apply_any HSl.out (tvar (fn : Int)) none 0 W (by show Ty.parts (.node 1 [] (fn : Int) []) ≤ 100000; simp [parts, partss]) (Tm.leaf (fun _ => False) W (by decide) _ (by omega)).tb (hvb ▸ hB : BM W g k l1 (.slice Ab k cb) vt).bk
                rw [f3] at h
                exact h.mono fun en w' ⟨A3, c3, h1, h2⟩ => ⟨A3, c3, h1, h2.cap, h2.bel⟩
              have CSv : Hid (∀ (W : World) (A3 : Option Addr) (c3 : Nat), c3 ≤ maxLen → Calls Try.prog 14 #[.agg #[.int .u8 1, .string ⟨#[]⟩, .int .i64 (fn : Int), .slice A3 0 c3], .agg #[.int .u8 1, .string ⟨#[]⟩, .int .i64 (fn : Int), .slice none 0 0]] W fun e w' => e = .returned (.bool true) ∧ Below W.heap.size W w') := Lib.hid fun W A3 c3 k1 => by
                have h := rsame_any (F := fun _ => False) (G := fun _ => False) (tvar (fn : Int)) (tvar (fn : Int)) A3 c3 none 0 W (.nil _) (Nat.zero_le _) k1 (.nil _)
                rw [same_refl] at h
                exact h
              have HFi := Lib.hid (And.intro hfi (And.intro hsf hcq))
              have q4 : decide ((fn : Int) < 0) = false := by simp
              have q5 : decide ((fn : Int) ≥ (k : Int)) = false := by simp; omega
              have q6 : decide (k ≤ fn) = false := by simp; omega
              have q7 : decide ((k : Int) ≤ (fn : Int)) = false := by simp; omega
              have hw1 : IntKind.i64.wrap (m : Int) = (m : Int) := IntWalk.i64_in _ ⟨by omega, by omega⟩
              have hw2 : (IntKind.i64.wrap (m : Int)).tmod 12 = (k : Int) := by rw [hw1]; exact hmod
              obtain ⟨g0, g1, g2, g3, g4, g5⟩ := HZ.out wr (Below.refl _ _)
              have hnb : n ≤ 9223372036854775807 := by have h1 := nodup_len k fs HFr.out.2.2.1 (fun z hz => by have := free_in HSl.out (HFr.out.2.2.2 z hz); exact ⟨this.1, this.2.1⟩); have h2 := HFr.out.1; omega
              clear hfi f0 f1 f2 f3 hns hbf hcf hs0 hsf hcq
              go_upto_region 20 with fail
              have HD := Lib.hid (Below.drew (Below.refl wr.heap.size wr))
              refine wp_region_held_drew (S := (fun W => W.cell? ⟨bf, i, none⟩ = some (.int .i64 (fn : Int)) ∧ W.cell? ⟨q, fn, none⟩ = some (.bool false) ∧ W.cell? ⟨px, 0, none⟩ = some (.int .u8 (x.k : Int)) ∧ W.cell? ⟨px, 1, none⟩ = some (.string (str x.nm)) ∧ W.cell? ⟨px, 2, none⟩ = some (.int .i64 x.n) ∧ W.cell? ⟨px, 3, none⟩ = some (.slice A2 xl c2))) (by kernel_rfl) ⟨g0, g1, g2, g3, g4, g5⟩ (fun hHeld => ?_)
              refine takeY 0 (some 102) rfl rfl (by kernel_rfl) (by kernel_rfl) (by kernel_rfl) (fun _ _ _ h => h) (by rfl) (v := _) (by (intro _ hSw; (try dsimp only at hSw); go_simp; try with_reducible rfl)) hHeld ?_
              simp only [Act.put, List.setIfInBounds_toArray, List.set_cons_zero, List.set_cons_succ]
              refine takeY 1 (some 103) rfl rfl (by kernel_rfl) (by kernel_rfl) (by kernel_rfl) (fun _ _ _ h => h) (by rfl) (v := _) (by (intro _ hSw; (try dsimp only at hSw); go_simp; try with_reducible rfl)) hHeld ?_
              simp only [Act.put, List.setIfInBounds_toArray, List.set_cons_zero, List.set_cons_succ]
              refine takeY 2 (some 104) rfl rfl (by kernel_rfl) (by kernel_rfl) (by kernel_rfl) (fun _ _ _ h => h) (by rfl) (v := _) (by (intro _ hSw; (try dsimp only at hSw); go_simp; try with_reducible rfl)) hHeld ?_
              simp only [Act.put, List.setIfInBounds_toArray, List.set_cons_zero, List.set_cons_succ]
              refine takeY 3 (some 105) rfl rfl (by kernel_rfl) (by kernel_rfl) (by kernel_rfl) (fun _ _ _ h => h) (by rfl) (v := _) (by (intro _ hSw; (try dsimp only at hSw); go_simp; try with_reducible rfl)) hHeld ?_
              simp only [Act.put, List.setIfInBounds_toArray, List.set_cons_zero, List.set_cons_succ]
              refine takeY 4 (some 106) rfl rfl (by kernel_rfl) (by kernel_rfl) (by kernel_rfl) (fun _ _ _ h => h) (by rfl) (v := _) (by (intro _ hSw; (try dsimp only at hSw); go_simp; try with_reducible rfl)) hHeld ?_
              simp only [Act.put, List.setIfInBounds_toArray, List.set_cons_zero, List.set_cons_succ]
              refine takeY 5 (some 107) rfl rfl (by kernel_rfl) (by kernel_rfl) (by kernel_rfl) (fun _ _ _ h => h) (by rfl) (v := _) (by (intro _ hSw; (try dsimp only at hSw); go_simp; try with_reducible rfl)) hHeld ?_
              simp only [Act.put, List.setIfInBounds_toArray, List.set_cons_zero, List.set_cons_succ]
              refine takeY 6 (some 108) rfl rfl (by kernel_rfl) (by kernel_rfl) (by kernel_rfl) (fun _ _ _ h => h) (by rfl) (v := _) (by (intro _ hSw; (try dsimp only at hSw); go_simp; try with_reducible rfl)) hHeld ?_
              simp only [Act.put, List.setIfInBounds_toArray, List.set_cons_zero, List.set_cons_succ]
              refine takeY 7 (some 109) rfl rfl (by kernel_rfl) (by kernel_rfl) (by kernel_rfl) (fun _ _ _ h => h) (by rfl) (v := _) (by (intro _ hSw; (try dsimp only at hSw); go_simp; try with_reducible rfl)) hHeld ?_
              simp only [Act.put, List.setIfInBounds_toArray, List.set_cons_zero, List.set_cons_succ]
              refine takeY 8 (some 110) rfl rfl (by kernel_rfl) (by kernel_rfl) (by kernel_rfl) (fun _ _ _ h => h) (by rfl) (v := _) (by (intro _ hSw; (try dsimp only at hSw); go_simp; try with_reducible rfl)) hHeld ?_
              simp only [Act.put, List.setIfInBounds_toArray, List.set_cons_zero, List.set_cons_succ]
              refine takeY 9 (some 111) rfl rfl (by kernel_rfl) (by kernel_rfl) (by kernel_rfl) (fun _ _ _ h => h) (by rfl) (v := _) (by (intro _ hSw; (try dsimp only at hSw); go_simp; try with_reducible rfl)) hHeld ?_
              simp only [Act.put, List.setIfInBounds_toArray, List.set_cons_zero, List.set_cons_succ]
              refine takeY 10 (some 112) rfl rfl (by kernel_rfl) (by kernel_rfl) (by kernel_rfl) (fun _ _ _ h => h) (by rfl) (v := _) (by (intro _ hSw; (try dsimp only at hSw); go_simp; try with_reducible rfl)) hHeld ?_
              simp only [Act.put, List.setIfInBounds_toArray, List.set_cons_zero, List.set_cons_succ]
              refine wpAnyH_ready (rs := [11]) (by kernel_rfl) (by simp) ?_
              refine AllReadyH.cons rfl (fun K hK => ?_) AllReadyH.nil
              clear hHeld
              go_simp
              refine hK.out _ _ ⟨g0, g1, g2, g3, g4, g5⟩ (fun hHeld => ?_)
              clear hK K
              refine takeY 12 (some 114) rfl rfl (by kernel_rfl) (by kernel_rfl) (by kernel_rfl) (fun _ _ _ h => h) (by rfl) (v := _) (by (intro _ hSw; (try dsimp only at hSw); go_simp; try with_reducible rfl)) hHeld ?_
              simp only [Act.put, List.setIfInBounds_toArray, List.set_cons_zero, List.set_cons_succ]
              refine takeY 13 (some 115) rfl rfl (by kernel_rfl) (by kernel_rfl) (by kernel_rfl) (fun _ _ _ h => h) (by rfl) (v := _) (by (intro _ hSw; (try dsimp only at hSw); go_simp; try with_reducible rfl)) hHeld ?_
              simp only [Act.put, List.setIfInBounds_toArray, List.set_cons_zero, List.set_cons_succ]
              refine takeY 14 (some 116) rfl rfl (by kernel_rfl) (by kernel_rfl) (by kernel_rfl) (fun _ _ _ h => h) (by rfl) (v := _) (by (intro _ hSw; (try dsimp only at hSw); go_simp; try with_reducible rfl)) hHeld ?_
              simp only [Act.put, List.setIfInBounds_toArray, List.set_cons_zero, List.set_cons_succ]
              refine takeY 15 (some 117) rfl rfl (by kernel_rfl) (by kernel_rfl) (by kernel_rfl) (fun _ _ _ h => h) (by rfl) (v := _) (by (intro _ hSw; (try dsimp only at hSw); go_simp; try with_reducible rfl)) hHeld ?_
              simp only [Act.put, List.setIfInBounds_toArray, List.set_cons_zero, List.set_cons_succ]
              refine takeY 16 (some 118) rfl rfl (by kernel_rfl) (by kernel_rfl) (by kernel_rfl) (fun _ _ _ h => h) (by rfl) (v := _) (by (intro _ hSw; (try dsimp only at hSw); go_simp; try with_reducible rfl)) hHeld ?_
              simp only [Act.put, List.setIfInBounds_toArray, List.set_cons_zero, List.set_cons_succ]
              refine takeY 17 (some 119) rfl rfl (by kernel_rfl) (by kernel_rfl) (by kernel_rfl) (fun _ _ _ h => h) (by rfl) (v := _) (by (intro _ hSw; (try dsimp only at hSw); go_simp; try with_reducible rfl)) hHeld ?_
              simp only [Act.put, List.setIfInBounds_toArray, List.set_cons_zero, List.set_cons_succ]
              refine takeY 18 (some 120) rfl rfl (by kernel_rfl) (by kernel_rfl) (by kernel_rfl) (fun _ _ _ h => h) (by rfl) (v := _) (by (intro _ hSw; (try dsimp only at hSw); go_simp; try with_reducible rfl)) hHeld ?_
              simp only [Act.put, List.setIfInBounds_toArray, List.set_cons_zero, List.set_cons_succ]
              refine takeY 19 (some 121) rfl rfl (by kernel_rfl) (by kernel_rfl) (by kernel_rfl) (fun _ _ _ h => h) (by rfl) (v := _) (by (intro _ hSw; (try dsimp only at hSw); go_simp; try with_reducible rfl)) hHeld ?_
              simp only [Act.put, List.setIfInBounds_toArray, List.set_cons_zero, List.set_cons_succ]
              refine takeY 20 (some 122) rfl rfl (by kernel_rfl) (by kernel_rfl) (by kernel_rfl) (fun _ _ _ h => h) (by rfl) (v := _) (by (intro _ hSw; (try dsimp only at hSw); go_simp; try with_reducible rfl)) hHeld ?_
              simp only [Act.put, List.setIfInBounds_toArray, List.set_cons_zero, List.set_cons_succ]
              refine takeY 21 (some 123) rfl rfl (by kernel_rfl) (by kernel_rfl) (by kernel_rfl) (fun _ _ _ h => h) (by rfl) (v := _) (by (intro _ hSw; (try dsimp only at hSw); go_simp; try with_reducible rfl)) hHeld ?_
              simp only [Act.put, List.setIfInBounds_toArray, List.set_cons_zero, List.set_cons_succ]
              refine takeY 22 (some 124) rfl rfl (by kernel_rfl) (by kernel_rfl) (by kernel_rfl) (fun _ _ _ h => h) (by rfl) (v := _) (by (intro _ hSw; (try dsimp only at hSw); go_simp; try with_reducible rfl)) hHeld ?_
              simp only [Act.put, List.setIfInBounds_toArray, List.set_cons_zero, List.set_cons_succ]
              refine takeY 23 (some 125) rfl rfl (by kernel_rfl) (by kernel_rfl) (by kernel_rfl) (fun _ _ _ h => h) (by rfl) (v := _) (by (intro _ hSw; (try dsimp only at hSw); go_simp; try with_reducible rfl)) hHeld ?_
              simp only [Act.put, List.setIfInBounds_toArray, List.set_cons_zero, List.set_cons_succ]
              refine takeY 24 (some 126) rfl rfl (by kernel_rfl) (by kernel_rfl) (by kernel_rfl) (fun _ _ _ h => h) (by rfl) (v := _) (by (intro _ hSw; (try dsimp only at hSw); go_simp; try with_reducible rfl)) hHeld ?_
              simp only [Act.put, List.setIfInBounds_toArray, List.set_cons_zero, List.set_cons_succ]
              refine takeY 25 (some 127) rfl rfl (by kernel_rfl) (by kernel_rfl) (by kernel_rfl) (fun _ _ _ h => h) (by rfl) (v := _) (by (intro _ hSw; (try dsimp only at hSw); go_simp; try with_reducible rfl)) hHeld ?_
              simp only [Act.put, List.setIfInBounds_toArray, List.set_cons_zero, List.set_cons_succ]
              refine takeY 26 (some 128) rfl rfl (by kernel_rfl) (by kernel_rfl) (by kernel_rfl) (fun _ _ _ h => h) (by rfl) (v := _) (by (intro _ hSw; (try dsimp only at hSw); go_simp; try with_reducible rfl)) hHeld ?_
              simp only [Act.put, List.setIfInBounds_toArray, List.set_cons_zero, List.set_cons_succ]
              refine takeY 27 (some 129) rfl rfl (by kernel_rfl) (by kernel_rfl) (by kernel_rfl) (fun _ _ _ h => h) (by rfl) (v := _) (by (intro _ hSw; (try dsimp only at hSw); go_simp; try with_reducible rfl)) hHeld ?_
              simp only [Act.put, List.setIfInBounds_toArray, List.set_cons_zero, List.set_cons_succ]
              refine takeY 28 (some 130) rfl rfl (by kernel_rfl) (by kernel_rfl) (by kernel_rfl) (fun _ _ _ h => h) (by rfl) (v := _) (by (intro _ hSw; (try dsimp only at hSw); go_simp; try with_reducible rfl)) hHeld ?_
              simp only [Act.put, List.setIfInBounds_toArray, List.set_cons_zero, List.set_cons_succ]
              refine takeY 29 (some 131) rfl rfl (by kernel_rfl) (by kernel_rfl) (by kernel_rfl) (fun _ _ _ h => h) (by rfl) (v := _) (by (intro _ hSw; (try dsimp only at hSw); go_simp; try with_reducible rfl)) hHeld ?_
              simp only [Act.put, List.setIfInBounds_toArray, List.set_cons_zero, List.set_cons_succ]
              refine wpAnyH_ready (rs := [30]) (by kernel_rfl) (by simp) ?_
              refine AllReadyH.cons rfl (fun K hK => ?_) AllReadyH.nil
              clear hHeld
              go_simp
              go_wp2_with (go_at_call 25; refine Calls.mono (CT.out _ HD.out) ?_; rintro en v1 ⟨rfl, hb⟩; have HE1 := Lib.hid (HD.out.trans (hb.mono HD.out.size)); clear hb g0 g1 g2 g3 g4 g5; obtain ⟨g0a, g1a, g2a, g3a, g4a, g5a⟩ := HZ.out _ HE1.out)
              refine hK.out _ _ ⟨g0a, g1a, g2a, g3a, g4a, g5a⟩ (fun hHeld => ?_)
              clear hK K
              refine takeY 31 (some 133) rfl rfl (by kernel_rfl) (by kernel_rfl) (by kernel_rfl) (fun _ _ _ h => h) (by rfl) (v := _) (by (intro _ hSw; (try dsimp only at hSw); go_simp; try with_reducible rfl)) hHeld ?_
              simp only [Act.put, List.setIfInBounds_toArray, List.set_cons_zero, List.set_cons_succ]
              refine takeY 32 (some 134) rfl rfl (by kernel_rfl) (by kernel_rfl) (by kernel_rfl) (fun _ _ _ h => h) (by rfl) (v := _) (by (intro _ hSw; (try dsimp only at hSw); go_simp; try with_reducible rfl)) hHeld ?_
              simp only [Act.put, List.setIfInBounds_toArray, List.set_cons_zero, List.set_cons_succ]
              refine takeY 33 (some 135) rfl rfl (by kernel_rfl) (by kernel_rfl) (by kernel_rfl) (fun _ _ _ h => h) (by rfl) (v := _) (by (intro _ hSw; (try dsimp only at hSw); go_simp; try with_reducible rfl)) hHeld ?_
              simp only [Act.put, List.setIfInBounds_toArray, List.set_cons_zero, List.set_cons_succ]
              refine takeY 34 (some 136) rfl rfl (by kernel_rfl) (by kernel_rfl) (by kernel_rfl) (fun _ _ _ h => h) (by rfl) (v := _) (by (intro _ hSw; (try dsimp only at hSw); go_simp; try with_reducible rfl)) hHeld ?_
              simp only [Act.put, List.setIfInBounds_toArray, List.set_cons_zero, List.set_cons_succ]
              refine takeY 35 (some 137) rfl rfl (by kernel_rfl) (by kernel_rfl) (by kernel_rfl) (fun _ _ _ h => h) (by rfl) (v := _) (by (intro _ hSw; (try dsimp only at hSw); go_simp; try with_reducible rfl)) hHeld ?_
              simp only [Act.put, List.setIfInBounds_toArray, List.set_cons_zero, List.set_cons_succ]
              refine takeY 36 (some 138) rfl rfl (by kernel_rfl) (by kernel_rfl) (by kernel_rfl) (fun _ _ _ h => h) (by rfl) (v := _) (by (intro _ hSw; (try dsimp only at hSw); go_simp; try with_reducible rfl)) hHeld ?_
              simp only [Act.put, List.setIfInBounds_toArray, List.set_cons_zero, List.set_cons_succ]
              refine takeY 37 (some 139) rfl rfl (by kernel_rfl) (by kernel_rfl) (by kernel_rfl) (fun _ _ _ h => h) (by rfl) (v := _) (by (intro _ hSw; (try dsimp only at hSw); go_simp; try with_reducible rfl)) hHeld ?_
              simp only [Act.put, List.setIfInBounds_toArray, List.set_cons_zero, List.set_cons_succ]
              refine takeY 38 (some 140) rfl rfl (by kernel_rfl) (by kernel_rfl) (by kernel_rfl) (fun _ _ _ h => h) (by rfl) (v := _) (by (intro _ hSw; (try dsimp only at hSw); go_simp; try with_reducible rfl)) hHeld ?_
              simp only [Act.put, List.setIfInBounds_toArray, List.set_cons_zero, List.set_cons_succ]
              refine takeY 41 (some 143) rfl rfl (by kernel_rfl) (by kernel_rfl) (by kernel_rfl) (fun _ _ _ h => h) (by rfl) (v := _) (by (intro _ hSw; (try dsimp only at hSw); go_simp; try with_reducible rfl)) hHeld ?_
              simp only [Act.put, List.setIfInBounds_toArray, List.set_cons_zero, List.set_cons_succ]
              refine takeY 42 (some 144) rfl rfl (by kernel_rfl) (by kernel_rfl) (by kernel_rfl) (fun _ _ _ h => h) (by rfl) (v := _) (by (intro _ hSw; (try dsimp only at hSw); go_simp; try with_reducible rfl)) hHeld ?_
              simp only [Act.put, List.setIfInBounds_toArray, List.set_cons_zero, List.set_cons_succ]
              refine takeY 43 (some 145) rfl rfl (by kernel_rfl) (by kernel_rfl) (by kernel_rfl) (fun _ _ _ h => h) (by rfl) (v := _) (by (intro _ hSw; (try dsimp only at hSw); go_simp; try with_reducible rfl)) hHeld ?_
              simp only [Act.put, List.setIfInBounds_toArray, List.set_cons_zero, List.set_cons_succ]
              refine takeY 44 (some 146) rfl rfl (by kernel_rfl) (by kernel_rfl) (by kernel_rfl) (fun _ _ _ h => h) (by rfl) (v := _) (by (intro _ hSw; (try dsimp only at hSw); go_simp; try with_reducible rfl)) hHeld ?_
              simp only [Act.put, List.setIfInBounds_toArray, List.set_cons_zero, List.set_cons_succ]
              refine wpAnyH_ready (rs := [39]) (by kernel_rfl) (by simp) ?_
              refine AllReadyH.cons rfl (fun K hK => ?_) AllReadyH.nil
              clear hHeld
              go_simp
              go_wp2_with (go_at_call 23; refine Calls.mono (CV.out _) ?_; rintro en v2 ⟨rfl, hb⟩; have HE2 := Lib.hid (HE1.out.trans (hb.mono HE1.out.size)); clear hb g0a g1a g2a g3a g4a g5a; obtain ⟨g0b, g1b, g2b, g3b, g4b, g5b⟩ := HZ.out _ HE2.out)
              refine hK.out _ _ ⟨g0b, g1b, g2b, g3b, g4b, g5b⟩ (fun hHeld => ?_)
              clear hK K
              refine wpAnyH_ready (rs := [40]) (by kernel_rfl) (by simp) ?_
              refine AllReadyH.cons rfl (fun K hK => ?_) AllReadyH.nil
              clear hHeld
              go_simp
              go_wp2_with (go_at_call 22; refine Calls.mono (CAv.out _ HE2.out) ?_; rintro en v3 ⟨A3, c3, rfl, hc3, hb⟩; have HC3 := Lib.hid hc3; clear hc3; have HE3 := Lib.hid (HE2.out.trans (hb.mono HE2.out.size)); clear hb g0b g1b g2b g3b g4b g5b; obtain ⟨g0c, g1c, g2c, g3c, g4c, g5c⟩ := HZ.out _ HE3.out)
              refine hK.out _ _ ⟨g0c, g1c, g2c, g3c, g4c, g5c⟩ (fun hHeld => ?_)
              clear hK K
              refine wpAnyH_ready (rs := [45]) (by kernel_rfl) (by simp) ?_
              refine AllReadyH.cons rfl (fun K hK => ?_) AllReadyH.nil
              clear hHeld
              go_simp
              go_wp2_with (go_at_call 23; refine Calls.mono (CV.out _) ?_; rintro en v4 ⟨rfl, hb⟩; have HE4 := Lib.hid (HE3.out.trans (hb.mono HE3.out.size)); clear hb g0c g1c g2c g3c g4c g5c; obtain ⟨g0d, g1d, g2d, g3d, g4d, g5d⟩ := HZ.out _ HE4.out)
              refine hK.out _ _ ⟨g0d, g1d, g2d, g3d, g4d, g5d⟩ (fun hHeld => ?_)
              clear hK K
              refine wpAnyH_ready (rs := [46]) (by kernel_rfl) (by simp) ?_
              refine AllReadyH.cons rfl (fun K hK => ?_) AllReadyH.nil
              clear hHeld
              go_simp
              go_wp2_with (go_at_call 14; refine Calls.mono (CSv.out _ A3 c3 HC3.out) ?_; rintro en v5 ⟨rfl, hb⟩; have HE5 := Lib.hid (HE4.out.trans (hb.mono HE4.out.size)); clear hb g0d g1d g2d g3d g4d g5d; obtain ⟨g0e, g1e, g2e, g3e, g4e, g5e⟩ := HZ.out _ HE5.out)
              refine hK.out _ _ ⟨g0e, g1e, g2e, g3e, g4e, g5e⟩ (fun hHeld => ?_)
              clear hK K
              refine takeY 47 (some 149) rfl rfl (by kernel_rfl) (by kernel_rfl) (by kernel_rfl) (fun _ _ _ h => h) (by rfl) (v := _) (by (intro _ hSw; (try dsimp only at hSw); go_simp; try with_reducible rfl)) hHeld ?_
              simp only [Act.put, List.setIfInBounds_toArray, List.set_cons_zero, List.set_cons_succ]
              refine takeY 48 (some 150) rfl rfl (by kernel_rfl) (by kernel_rfl) (by kernel_rfl) (fun _ _ _ h => h) (by rfl) (v := _) (by (intro _ hSw; (try dsimp only at hSw); go_simp; try with_reducible rfl)) hHeld ?_
              simp only [Act.put, List.setIfInBounds_toArray, List.set_cons_zero, List.set_cons_succ]
              refine wpAnyH_done (by kernel_rfl) ?_ _
              clear hHeld CT CV CAv CSv
              have gf : ∀ i, v5.frozen? ⟨q, i, none⟩ = false := (hJ.out.2.bel HE5.out).get hf12 |>.2
              have HN : Hid (Below wb.heap.size wb (v5.setCell ⟨q, fn, none⟩ (.bool true)) ∧ Seen (v5.setCell ⟨q, fn, none⟩ (.bool true)) q (fs.take (i + 1))) := Lib.hid ⟨(hJ.out.1.trans (HE5.out.mono hJ.out.1.size)).trans ((Off.setc v5 q fn (.bool true)).below (Nat.le_trans hJ.out.1.size HE5.out.size) (fun j e => by have := HQ.out.2.2; omega)), by
                have h := (hJ.out.2.bel HE5.out).put fn
                rw [List.take_add_one, HFi.out.1]
                exact h⟩
              clear hJ HE1 HE2 HE3 HE4 HD HZ HKx HTx HWr HFi
              go_wp2_with fail
              go_roundw
              case rel => exact ⟨i + 1, by omega, by go_num, HN⟩
              case measure => simp [intOf]; omega
            · obtain rfl : n = i := by omega
              have hd3 : decide ((n : Int) < (n : Int)) = false := by simp
              have HKx := Lib.hid (HKb.out.below hJ.out.1 HKb.out.lt)
              have HTx : Hid (∀ W, Below wr.heap.size wr W → Tb W.heap.size W x A2 c2) := Lib.hid fun W hW => ⟨((HTb9.out.at_.bel hJ.out.1).bel hW).now, HTb9.out.len, HTb9.out.cap, HTb9.out.ok⟩
              have HWr := Lib.hid (HWb.out.bel' hJ.out.1)
              have hap : applyT k S1 x = x := by have h := apply_twice (N := k) (t := t) HSl.out (by rw [HX.out.2.1]; exact HXK.out); rw [HX.out.2.1] at h; exact h
              have hpx : x.parts ≤ 100000 := by have h := apply_parts (N := k) (S := S1) HSm.out; rw [HX.out.2.1] at h; omega
              have CAx : Hid (∀ W, Below wr.heap.size wr W → Calls Try.prog 22 #[.pointer (some ⟨g, 0, none⟩), .agg #[.int .u8 (x.k : Int), .string (str x.nm), .int .i64 x.n, .slice A2 xl c2]] W fun en w' => ∃ A3 c3, en = .returned (.agg #[.int .u8 (x.k : Int), .string (str x.nm), .int .i64 x.n, .slice A3 xl c3]) ∧ Made W w' x A3 c3) := Lib.hid fun W hW => by
                have hB := HWr.out.bm.bel hW
                obtain ⟨Ab, cb, hvb, _, _⟩ := hB.shape
                have h := Apply_any HSl.out x A2 c2 W hpx (HTx.out W hW) (hvb ▸ hB : BM W g k l1 (.slice Ab k cb) vt).bk
                rw [hap] at h
                unfold Ty.val at h
                rw [HX.out.2.2.1] at h
                exact h
              have CSx : Hid (∀ (W : World) (A3 : Option Addr) (c3 : Nat) (F : Nat → Prop), Below wr.heap.size wr W → Ty.At F W A3 x.ks → xl ≤ c3 → c3 ≤ maxLen → Calls Try.prog 14 #[.agg #[.int .u8 (x.k : Int), .string (str x.nm), .int .i64 x.n, .slice A3 xl c3], .agg #[.int .u8 (x.k : Int), .string (str x.nm), .int .i64 x.n, .slice A2 xl c2]] W fun e w' => e = .returned (.bool true) ∧ Below W.heap.size W w') := Lib.hid fun W A3 c3 F hW k1 k2 k3 => by
                have h := rsame_any x x A3 c3 A2 c2 W k1 (by rw [HX.out.2.2.1]; exact k2) k3 (HTx.out W hW).at_
                rw [same_refl] at h
                unfold Ty.val at h
                rw [HX.out.2.2.1] at h
                exact h
              have bx := HKx.out.below (Below.refl wr.heap.size wr) HKx.out.lt
              have h0a := bx.cell 0
              have h1a := bx.cell 1
              have h2a := bx.cell 2
              have h3a := bx.cell 3
              simp only [List.getElem?_toArray, List.getElem?_cons_zero, List.getElem?_cons_succ] at h0a h1a h2a h3a
              clear bx
              clear hap hpx
              go_upto_region 23 with fail
              have HD := Lib.hid (Below.drew (Below.refl wr.heap.size wr))
              refine wp_region_held_drew (S := (fun W => W.cell? ⟨px, 0, none⟩ = some (.int .u8 (x.k : Int)) ∧ W.cell? ⟨px, 1, none⟩ = some (.string (str x.nm)) ∧ W.cell? ⟨px, 2, none⟩ = some (.int .i64 x.n) ∧ W.cell? ⟨px, 3, none⟩ = some (.slice A2 xl c2))) (by kernel_rfl) ⟨h0a, h1a, h2a, h3a⟩ (fun hHeld => ?_)
              refine takeY 0 (some 157) rfl rfl (by kernel_rfl) (by kernel_rfl) (by kernel_rfl) (fun _ _ _ h => h) (by rfl) (v := _) (by (intro _ hSw; (try dsimp only at hSw); go_simp; try with_reducible rfl)) hHeld ?_
              simp only [Act.put, List.setIfInBounds_toArray, List.set_cons_zero, List.set_cons_succ]
              refine takeY 1 (some 158) rfl rfl (by kernel_rfl) (by kernel_rfl) (by kernel_rfl) (fun _ _ _ h => h) (by rfl) (v := _) (by (intro _ hSw; (try dsimp only at hSw); go_simp; try with_reducible rfl)) hHeld ?_
              simp only [Act.put, List.setIfInBounds_toArray, List.set_cons_zero, List.set_cons_succ]
              refine takeY 3 (some 160) rfl rfl (by kernel_rfl) (by kernel_rfl) (by kernel_rfl) (fun _ _ _ h => h) (by rfl) (v := _) (by (intro _ hSw; (try dsimp only at hSw); go_simp; try with_reducible rfl)) hHeld ?_
              simp only [Act.put, List.setIfInBounds_toArray, List.set_cons_zero, List.set_cons_succ]
              refine wpAnyH_ready (rs := [2]) (by kernel_rfl) (by simp) ?_
              refine AllReadyH.cons rfl (fun K hK => ?_) AllReadyH.nil
              clear hHeld
              go_simp
              go_wp2_with (go_at_call 22; refine Calls.mono (CAx.out _ HD.out) ?_; rintro en v1 ⟨A3, c3, rfl, hmd⟩; have HE1 := Lib.hid (HD.out.trans hmd.bel); have HMd := Lib.hid hmd; clear hmd h0a h1a h2a h3a; have bx := HKx.out.below HE1.out HKx.out.lt; have h0b := bx.cell 0; have h1b := bx.cell 1; have h2b := bx.cell 2; have h3b := bx.cell 3; simp only [List.getElem?_toArray, List.getElem?_cons_zero, List.getElem?_cons_succ] at h0b h1b h2b h3b; clear bx)
              refine hK.out _ _ ⟨h0b, h1b, h2b, h3b⟩ (fun hHeld => ?_)
              clear hK K
              refine wpAnyH_ready (rs := [4]) (by kernel_rfl) (by simp) ?_
              refine AllReadyH.cons rfl (fun K hK => ?_) AllReadyH.nil
              clear hHeld
              go_simp
              go_wp2_with (go_at_call 14; refine Calls.mono (CSx.out _ A3 c3 _ HE1.out HMd.out.at_ (by rw [← HX.out.2.2.1]; exact HMd.out.len) HMd.out.cap) ?_; rintro en v2 ⟨rfl, hb⟩; have HE2 := Lib.hid (HE1.out.trans (hb.mono HE1.out.size)); clear hb h0b h1b h2b h3b; have bx := HKx.out.below HE2.out HKx.out.lt; have h0c := bx.cell 0; have h1c := bx.cell 1; have h2c := bx.cell 2; have h3c := bx.cell 3; simp only [List.getElem?_toArray, List.getElem?_cons_zero, List.getElem?_cons_succ] at h0c h1c h2c h3c; clear bx)
              refine hK.out _ _ ⟨h0c, h1c, h2c, h3c⟩ (fun hHeld => ?_)
              clear hK K
              refine takeY 5 (some 162) rfl rfl (by kernel_rfl) (by kernel_rfl) (by kernel_rfl) (fun _ _ _ h => h) (by rfl) (v := _) (by (intro _ hSw; (try dsimp only at hSw); go_simp; try with_reducible rfl)) hHeld ?_
              simp only [Act.put, List.setIfInBounds_toArray, List.set_cons_zero, List.set_cons_succ]
              refine wpAnyH_ready (rs := [6]) (by kernel_rfl) (by simp) ?_
              refine AllReadyH.cons rfl (fun K hK => ?_) AllReadyH.nil
              clear hHeld
              go_simp
              go_wp2_with (go_at_call 9; refine Calls.mono (HWk.out _) ?_; rintro en v3 ⟨rfl, hb⟩; have HE3 := Lib.hid (HE2.out.trans (hb.mono HE2.out.size)); clear hb h0c h1c h2c h3c; have bx := HKx.out.below HE3.out HKx.out.lt; have h0d := bx.cell 0; have h1d := bx.cell 1; have h2d := bx.cell 2; have h3d := bx.cell 3; simp only [List.getElem?_toArray, List.getElem?_cons_zero, List.getElem?_cons_succ] at h0d h1d h2d h3d; clear bx)
              refine hK.out _ _ ⟨h0d, h1d, h2d, h3d⟩ (fun hHeld => ?_)
              clear hK K
              refine takeY 7 (some 164) rfl rfl (by kernel_rfl) (by kernel_rfl) (by kernel_rfl) (fun _ _ _ h => h) (by rfl) (v := _) (by (intro _ hSw; (try dsimp only at hSw); go_simp; try with_reducible rfl)) hHeld ?_
              simp only [Act.put, List.setIfInBounds_toArray, List.set_cons_zero, List.set_cons_succ]
              refine takeY 8 (some 6) rfl rfl (by kernel_rfl) (by kernel_rfl) (by kernel_rfl) (fun _ _ _ h => h) (by rfl) (v := _) (by (intro _ hSw; (try dsimp only at hSw); go_simp; try with_reducible rfl)) hHeld ?_
              simp only [Act.put, List.setIfInBounds_toArray, List.set_cons_zero, List.set_cons_succ]
              refine wpAnyH_done (by kernel_rfl) ?_ _
              clear hHeld
              go_wp2_with fail
              go_ret
              exact ⟨rfl, HI.out.1.trans ((HWr.out.bel.trans (HE3.out.mono HWr.out.bel.size)).mono HI.out.1.size)⟩
end Go.Proofs.Ytndhojnfjlkojaa
