/- types: TypesOne. -/
import Derived.Test.YtndhojnfjlkojaaVa
import Derived.Test.YtndhojnfjlkojaaWk
import Derived.Test.YtndhojnfjlkojaaOp
import Derived.Test.YtndhojnfjlkojaaC
import Derived.Test.YtndhojnfjlkojaaN
import Derived.Test.YtndhojnfjlkojaaTake
namespace Go.Proofs.Ytndhojnfjlkojaa
open Go.RowKit
set_option linter.unusedVariables false
set_option linter.unusedSimpArgs false
attribute [local go_sem] Oper.semAt_some
open Ty
theorem bne_self (b : Bool) : (b != b) = false := by cases b <;> rfl
set_option maxRecDepth 20000 in
set_option maxHeartbeats 8000000 in
theorem one_law (s t : Ty) (A : Option Addr) (c : Nat) (B : Option Addr) (d : Nat) (L : Option Addr) (ll lc : Nat) (ts : List Ty) (w : World) (hs : Tb w.heap.size w s A c) (ht : Tb w.heap.size w t B d) (hll : ts.length = ll) (hlc : ll ≤ lc) (hlm : lc ≤ maxLen) (hL : Ty.At (fun b => b < w.heap.size) w L ts) :
    Calls Try.prog 3 #[s.val A c, t.val B d, .slice L ll lc] w fun e w' => e = .returned (.bool true) ∧ Below w.heap.size w w' := by
  obtain ⟨sl, hsl⟩ : ∃ sl, s.ks.length = sl := ⟨_, rfl⟩
  obtain ⟨tl, htl⟩ : ∃ tl, t.ks.length = tl := ⟨_, rfl⟩
  obtain ⟨w0, hw0⟩ : ∃ w0, (w.alloc (.cells #[.int .u8 (s.k : Int), .string (str s.nm), .int .i64 s.n, .slice A sl c] 24)).alloc (.cells #[.int .u8 (t.k : Int), .string (str t.nm), .int .i64 t.n, .slice B tl d] 24) = w0 := ⟨_, rfl⟩
  have hb0 : Below w.heap.size w w0 := by rw [← hw0]; exact ((Below.refl _ _).alloc (Nat.le_refl _) _).alloc (by simp) _
  have hS0 : Blk w0 w.heap.size 24 #[.int .u8 (s.k : Int), .string (str s.nm), .int .i64 s.n, .slice A sl c] := by rw [← hw0]; exact (Blk.new _ _ _).alloc _
  have hT0 : Blk w0 (w.heap.size + 1) 24 #[.int .u8 (t.k : Int), .string (str t.nm), .int .i64 t.n, .slice B tl d] := by
    have := Blk.new (w.alloc (.cells #[.int .u8 (s.k : Int), .string (str s.nm), .int .i64 s.n, .slice A sl c] 24)) 24 #[.int .u8 (t.k : Int), .string (str t.nm), .int .i64 t.n, .slice B tl d]
    rw [World.size_alloc] at this
    rw [← hw0]; exact this
  have hTb : ∀ (x : Ty) (Ax : Option Addr) (cx : Nat), Tb w.heap.size w x Ax cx → ∀ W, Below w0.heap.size w0 W → Tb W.heap.size W x Ax cx := fun x Ax cx hx W hW => ⟨((hx.bel (hb0.trans (hW.mono hb0.size))).at_).now, hx.len, hx.cap, hx.ok⟩
  have hVs : ∀ W, Below w0.heap.size w0 W → Calls Try.prog 8 #[s.val A c] W fun e w' => ∃ b, e = .returned (.bool b) ∧ (b = false → small s) ∧ Below W.heap.size W w' := fun W hW => vast_any s A c W (hTb s A c hs W hW)
  have hVt : ∀ W, Below w0.heap.size w0 W → Calls Try.prog 8 #[t.val B d] W fun e w' => ∃ b, e = .returned (.bool b) ∧ (b = false → small t) ∧ Below W.heap.size W w' := fun W hW => vast_any t B d W (hTb t B d ht W hW)
  unfold Ty.val at hVs hVt ⊢
  simp only [hsl] at hVs
  simp only [htl] at hVt
  rw [hsl, htl]
  have HVs := Lib.hid hVs
  have HVt := Lib.hid hVt
  have HBks := Lib.hid hS0
  have HBkt := Lib.hid hT0
  have HB0 := Lib.hid (Below.refl w0.heap.size w0)
  have HI := Lib.hid (And.intro hb0 (And.intro hs (And.intro ht (And.intro hL (And.intro hll (And.intro hsl htl))))))
  have HTb := Lib.hid hTb
  have HWk := Lib.hid works_any
  have hmx : ll ≤ 9223372036854775807 := by unfold maxLen at hlm; omega
  clear hb0 hS0 hT0 hTb hVs hVt hs ht hL hll hsl htl
  have bx := HBks.out.below HB0.out HBks.out.lt
  have s0a := bx.cell 0
  have s1a := bx.cell 1
  have s2a := bx.cell 2
  have s3a := bx.cell 3
  simp only [List.getElem?_toArray, List.getElem?_cons_zero, List.getElem?_cons_succ] at s0a s1a s2a s3a
  clear bx
  have bx := HBkt.out.below HB0.out HBkt.out.lt
  have t0a := bx.cell 0
  have t1a := bx.cell 1
  have t2a := bx.cell 2
  have t3a := bx.cell 3
  simp only [List.getElem?_toArray, List.getElem?_cons_zero, List.getElem?_cons_succ] at t0a t1a t2a t3a
  clear bx
  go_enter Try.func3, Try.ntmps3
  go_upto_region 1 with fail
  (try rw [hw0])
  clear hw0
  go_cut [21] from 11 to 21 (fun s21 wx => ∃ b : Bool, s21 = .bool b ∧ Hid (Below w0.heap.size w0 wx ∧ (b = false → small s ∧ small t ∧ ll ≤ 10)))
  case first =>
    by_cases hlen : 10 < ll
    · have q1 : decide ((ll : Int) > 10) = true := by simp; omega
      have q2 : decide (10 < ll) = true := by simp; omega
      go_wp2_with (first | (go_at_call_of 8 (Value.string (str s.nm)); refine (HVs.out _ HB0.out).mono ?_; rintro e w1 ⟨vs, rfl, hvs, hb⟩; have HB1 := Lib.hid (HB0.out.trans (hb.mono HB0.out.size)); have Hvs := Lib.hid hvs; clear hb hvs; clear s0a s1a s2a s3a t0a t1a t2a t3a; have bx := HBks.out.below HB1.out HBks.out.lt; have s0b := bx.cell 0; have s1b := bx.cell 1; have s2b := bx.cell 2; have s3b := bx.cell 3; simp only [List.getElem?_toArray, List.getElem?_cons_zero, List.getElem?_cons_succ] at s0b s1b s2b s3b; clear bx; have bx := HBkt.out.below HB1.out HBkt.out.lt; have t0b := bx.cell 0; have t1b := bx.cell 1; have t2b := bx.cell 2; have t3b := bx.cell 3; simp only [List.getElem?_toArray, List.getElem?_cons_zero, List.getElem?_cons_succ] at t0b t1b t2b t3b; clear bx; cases vs) | (go_at_call_of 8 (Value.string (str t.nm)); refine (HVt.out _ HB1.out).mono ?_; rintro e w2 ⟨vt, rfl, hvt, hb⟩; have HB2 := Lib.hid (HB1.out.trans (hb.mono HB1.out.size)); have Hvt := Lib.hid hvt; clear hb hvt; clear s0b s1b s2b s3b t0b t1b t2b t3b; cases vt))
      all_goals
        go_meet
        first | exact ⟨true, rfl, Lib.hid ⟨HB2.out, fun h => by cases h⟩⟩ | exact ⟨true, rfl, Lib.hid ⟨HB1.out, fun h => by cases h⟩⟩
    · have q1 : decide ((ll : Int) > 10) = false := by simp; omega
      have q2 : decide (10 < ll) = false := by simp; omega
      go_wp2_with (first | (go_at_call_of 8 (Value.string (str s.nm)); refine (HVs.out _ HB0.out).mono ?_; rintro e w1 ⟨vs, rfl, hvs, hb⟩; have HB1 := Lib.hid (HB0.out.trans (hb.mono HB0.out.size)); have Hvs := Lib.hid hvs; clear hb hvs; clear s0a s1a s2a s3a t0a t1a t2a t3a; have bx := HBks.out.below HB1.out HBks.out.lt; have s0b := bx.cell 0; have s1b := bx.cell 1; have s2b := bx.cell 2; have s3b := bx.cell 3; simp only [List.getElem?_toArray, List.getElem?_cons_zero, List.getElem?_cons_succ] at s0b s1b s2b s3b; clear bx; have bx := HBkt.out.below HB1.out HBkt.out.lt; have t0b := bx.cell 0; have t1b := bx.cell 1; have t2b := bx.cell 2; have t3b := bx.cell 3; simp only [List.getElem?_toArray, List.getElem?_cons_zero, List.getElem?_cons_succ] at t0b t1b t2b t3b; clear bx; cases vs) | (go_at_call_of 8 (Value.string (str t.nm)); refine (HVt.out _ HB1.out).mono ?_; rintro e w2 ⟨vt, rfl, hvt, hb⟩; have HB2 := Lib.hid (HB1.out.trans (hb.mono HB1.out.size)); have Hvt := Lib.hid hvt; clear hb hvt; clear s0b s1b s2b s3b t0b t1b t2b t3b; cases vt))
      all_goals
        go_meet
        first | exact ⟨false, rfl, Lib.hid ⟨HB2.out, fun _ => ⟨(by first | exact Hvs.out rfl | exact Hvs.out trivial), (by first | exact Hvt.out rfl | exact Hvt.out trivial), by omega⟩⟩⟩ | exact ⟨true, rfl, Lib.hid ⟨HB2.out, fun h => by cases h⟩⟩ | exact ⟨true, rfl, Lib.hid ⟨HB1.out, fun h => by cases h⟩⟩
  case rest =>
    obtain ⟨b, rfl, hX⟩ := hcut
    clear s0a s1a s2a s3a t0a t1a t2a t3a
    have wk : Hid (Calls Try.prog 9 #[] wc fun e w' => e = .returned (.bool true) ∧ Below w.heap.size w w') := Lib.hid ((HWk.out wc).mono fun e w' h => ⟨h.1, HI.out.1.trans ((hX.out.1.trans (h.2.mono hX.out.1.size)).mono HI.out.1.size)⟩)
    cases b with
    | true =>
      go_wp2_with (go_at_call 9; refine wk.out.mono ?_; rintro e w2 ⟨rfl, hb⟩; have HB2 := Lib.hid hb; clear hb)
      go_ret
      exact ⟨rfl, HB2.out⟩
    | false =>
        have HSm := Lib.hid (hX.out.2 rfl)
        have HBc := Lib.hid hX.out.1
        clear hX wk
        go_wp2_with fail
        go_loopw [7] (fun iv wr => ∃ i : Nat, i ≤ ll ∧ iv = .int .i64 (i : Int) ∧ Hid (Below w0.heap.size w0 wr ∧ ∀ (r : Nat) (x : Ty), r < i → ts[r]? = some x → small x)) (fun iv _ => ll - (intOf iv).toNat)
        case atStart => exact ⟨0, Nat.zero_le _, rfl, Lib.hid ⟨HBc.out, fun r x h => absurd h (Nat.not_lt_zero r)⟩⟩
        case round =>
          clear HBc
          obtain ⟨i, hi, rfl, hJ⟩ := hrel
          by_cases hli : i < ll
          · have hd : decide ((i : Int) < (ll : Int)) = true := by simpa using hli
            obtain ⟨x, hx⟩ : ∃ x, ts[i]? = some x := ⟨_, List.getElem?_eq_getElem (by rw [HI.out.2.2.2.2.1]; exact hli)⟩
            have hbr : Below w.heap.size w wr := HI.out.1.trans (hJ.out.1.mono HI.out.1.size)
            obtain ⟨b1, o1, A2, c2, rfl, _, _, z0, z1, z2, z3, hok, hxc, hcm, hAt⟩ := (Ty.At.belB HI.out.2.2.2.1 hbr).get hx
            have hC := vast_any x A2 c2 wr ⟨hAt.now, hxc, hcm, hok⟩
            unfold Ty.val at hC
            obtain ⟨xl, hxl⟩ : ∃ xl, x.ks.length = xl := ⟨_, rfl⟩
            rw [hxl] at hC z3
            have HC := Lib.hid hC
            have HX := Lib.hid hx
            clear hbr hok hxc hcm hAt hC hxl hx
            go_upto_if 33 with (go_at_call 8; refine HC.out.mono ?_; rintro e w3 ⟨vb, rfl, hvb, hb⟩; have HB3 := Lib.hid (hJ.out.1.trans (hb.mono hJ.out.1.size)); have Hvb := Lib.hid hvb; clear hb hvb)
            cases vb with
            | true =>
              clear z0 z1 z2 z3
              go_wp2_with (go_at_call 9; refine (HWk.out _).mono ?_; rintro e w4 ⟨rfl, hb⟩; have HB4 := Lib.hid (HB3.out.trans (hb.mono HB3.out.size)); clear hb)
              go_ret
              exact ⟨rfl, HI.out.1.trans (HB4.out.mono HI.out.1.size)⟩
            | false =>
              have HN : Hid (Below w0.heap.size w0 w3 ∧ ∀ (r : Nat) (x : Ty), r < i + 1 → ts[r]? = some x → small x) := Lib.hid ⟨HB3.out, fun r y hr hy => by
                by_cases e : r = i
                · subst e; rw [HX.out] at hy; cases hy; exact (by first | exact Hvb.out rfl | exact Hvb.out trivial)
                · exact hJ.out.2 r y (by omega) hy⟩
              clear hJ HC HX Hvb HB3 z0 z1 z2 z3
              go_wp2_with fail
              go_roundw
              case rel => exact ⟨i + 1, by omega, by go_num, HN⟩
              case measure => simp [intOf]; omega
          · obtain rfl : ll = i := by omega
            have hd : decide ((ll : Int) < (ll : Int)) = false := by simp
            have HAll : Hid (∀ x ∈ ts, small x) := Lib.hid fun x hx => by
              obtain ⟨r, hr⟩ := List.getElem?_of_mem hx
              exact hJ.out.2 r x (by have := (List.getElem?_eq_some_iff.1 hr).1; have := HI.out.2.2.2.2.1; omega) hr
            have HBr := Lib.hid hJ.out.1
            clear hJ
            have hTw := twin_any s A c wr (HTb.out s A c HI.out.2.1 wr HBr.out).at_ HI.out.2.1.len HI.out.2.1.cap (by have := HSm.out.1.1; omega)
            unfold Ty.val at hTw
            rw [HI.out.2.2.2.2.2.1] at hTw
            have HTw := Lib.hid hTw
            clear hTw
            have bx := HBks.out.below HBr.out HBks.out.lt
            have s0c := bx.cell 0
            have s1c := bx.cell 1
            have s2c := bx.cell 2
            have s3c := bx.cell 3
            simp only [List.getElem?_toArray, List.getElem?_cons_zero, List.getElem?_cons_succ] at s0c s1c s2c s3c
            clear bx
            have bx := HBkt.out.below HBr.out HBkt.out.lt
            have t0c := bx.cell 0
            have t1c := bx.cell 1
            have t2c := bx.cell 2
            have t3c := bx.cell 3
            simp only [List.getElem?_toArray, List.getElem?_cons_zero, List.getElem?_cons_succ] at t0c t1c t2c t3c
            clear bx
            go_upto_region 9 with (go_at_call 10; refine HTw.out.mono ?_; rintro e w5 ⟨Ax, cx, rfl, hx1, hx2, hx3, hb⟩; have HB5 := Lib.hid (HBr.out.trans (hb.mono HBr.out.size)); have HX5 := Lib.hid (And.intro hx1 (And.intro hx2 hx3)); clear hb hx1 hx2 hx3)
            clear s0c s1c s2c s3c t0c t1c t2c t3c
            obtain ⟨w6, hw6⟩ : ∃ w6, w5.alloc (.cells #[.int .u8 (s.k : Int), .string (str s.nm), .int .i64 s.n, .slice Ax sl cx] 24) = w6 := ⟨_, rfl⟩
            have hb6 : Below w5.heap.size w5 w6 := by rw [← hw6]; exact (Below.refl _ _).alloc (Nat.le_refl _) _
            have hxb : Blk w6 w5.heap.size 24 #[.int .u8 (s.k : Int), .string (str s.nm), .int .i64 s.n, .slice Ax sl cx] := by rw [← hw6]; exact Blk.new _ _ _
            obtain ⟨px, hpx⟩ : ∃ px, w5.heap.size = px := ⟨_, rfl⟩
            (try rw [hw6])
            (try rw [hpx])
            rw [hpx] at hxb
            have hb06 := HB5.out.trans (hb6.mono HB5.out.size)
            have HBks := Lib.hid (HBks.out.below hb06 HBks.out.lt)
            have HBkt := Lib.hid (HBkt.out.below hb06 HBkt.out.lt)
            have HBkx := Lib.hid hxb
            have HXx : Hid (Tb w6.heap.size w6 s Ax cx) := Lib.hid ⟨(HX5.out.2.2.bel hb6).now, by rw [HI.out.2.2.2.2.2.1]; exact HX5.out.1, HX5.out.2.1, HI.out.2.1.ok⟩
            have HB06 := Lib.hid hb06
            have HTs : Hid (∀ W, Below w6.heap.size w6 W → Tb W.heap.size W s A c ∧ Tb W.heap.size W t B d ∧ Tb W.heap.size W s Ax cx ∧ Ty.At (fun b => b < w.heap.size) W L ts) := Lib.hid fun W hW => ⟨HTb.out s A c HI.out.2.1 W (HB06.out.trans (hW.mono HB06.out.size)), HTb.out t B d HI.out.2.2.1 W (HB06.out.trans (hW.mono HB06.out.size)), ⟨((HXx.out.bel hW).at_).now, HXx.out.len, HXx.out.cap, HXx.out.ok⟩, Ty.At.belB HI.out.2.2.2.1 (HI.out.1.trans ((HB06.out.trans (hW.mono HB06.out.size)).mono HI.out.1.size))⟩
            clear hw6 hb6 hxb hpx hb06 HX5 HTw HBr HB5
            go_wp2_with fail
            go_loopw [9, 10] (fun pv iv wr => ∃ (i : Nat) (es : List Te) (vp : Value), i ≤ ll ∧ vp = pv ∧ iv = .int .i64 (i : Int) ∧ Hid (Below w6.heap.size w6 wr ∧ es.map Te.t = ts.take i ∧ TyO w6.heap.size wr vp es)) (fun _ iv _ => ll - (intOf iv).toNat)
            case atStart => exact ⟨0, [], _, Nat.zero_le _, rfl, rfl, Lib.hid ⟨Below.refl _ _, by simp, TyO.nil _ _⟩⟩
            case round =>
              obtain ⟨i, es, vp, hi, rfl, rfl, hJ⟩ := hrel
              by_cases hli : i < ll
              · have hd : decide ((i : Int) < (ll : Int)) = true := by simpa using hli
                obtain ⟨x, hx⟩ : ∃ x, ts[i]? = some x := ⟨_, List.getElem?_eq_getElem (by rw [HI.out.2.2.2.2.1]; exact hli)⟩
                have hsm := (HAll.out x (List.mem_of_getElem? hx)).1
                obtain ⟨b1, o1, A2, c2, rfl, _, _, z0, z1, z2, z3, hok, hxc, hcm, hAt⟩ := (HTs.out wr hJ.out.1).2.2.2.get hx
                have hC := twin_any x A2 c2 wr hAt hxc hcm (by omega)
                unfold Ty.val at hC
                obtain ⟨xl, hxl⟩ : ∃ xl, x.ks.length = xl := ⟨_, rfl⟩
                rw [hxl] at hC z3
                have HC := Lib.hid hC
                have hel : es.length = i := by rw [← List.length_map (f := Te.t), hJ.out.2.1, List.length_take, HI.out.2.2.2.2.1]; omega
                have HX := Lib.hid (And.intro hx (And.intro hok (And.intro hxl hel)))
                clear hsm hok hxc hcm hAt hC hxl hx hel
                have HPU : Hid (∀ (w7 : World) (A7 : Option Addr) (c7 : Nat) (w8 : World), xl ≤ c7 → c7 ≤ maxLen → Ty.At (fun b => wr.heap.size ≤ b ∧ b < w7.heap.size) w7 A7 x.ks → Below wr.heap.size wr w7 → w7.alloc (.cells #[.int .u8 (x.k : Int), .string (str x.nm), .int .i64 x.n, .slice A7 xl c7] 24) = w8 →
                    ∃ A8 c8 w9, (Builtin.append_ #[22, 22] 22 #[vp, .slice (some ⟨w7.heap.size, 0, none⟩) 1 1]).run Try.prog w8 = .ok (.slice A8 (i + 1) c8) w9 ∧ Hid (Below w6.heap.size w6 w9 ∧ (es ++ [(⟨x, A7, c7⟩ : Te)]).map Te.t = ts.take (i + 1) ∧ TyO w6.heap.size w9 (.slice A8 (i + 1) c8) (es ++ [(⟨x, A7, c7⟩ : Te)]))) := Lib.hid fun w7 A7 c7 w8 k1 k2 k3 k4 k5 => by
                  have hb78 : Below w7.heap.size w7 w8 := by rw [← k5]; exact (Below.refl _ _).alloc (Nat.le_refl _) _
                  have hbk : Blk w8 w7.heap.size 24 #[.int .u8 (x.k : Int), .string (str x.nm), .int .i64 x.n, .slice A7 xl c7] := by rw [← k5]; exact Blk.new _ _ _
                  have hb68 := hJ.out.1.trans ((k4.trans (hb78.mono k4.size)).mono hJ.out.1.size)
                  have hto := hJ.out.2.2.below (k4.trans (hb78.mono k4.size))
                  have hs6 := hJ.out.1.size
                  have hs7 := k4.size
                  have hs8 := hb78.size
                  have hwl := hbk.lt
                  obtain ⟨v', w9, hrun, hto', hg, hv⟩ := hto.push hb68.size ⟨x, A7, c7⟩ w7.heap.size (fun j u hj => by
                    rw [hbk.cell]
                    rw [← HX.out.2.2.1]
                    match j with
                    | 0 => exact hj
                    | 1 => exact hj
                    | 2 => exact hj
                    | 3 => exact hj
                    | j + 4 => cases hj) ⟨((k3.bel hb78).mono fun b hb => ⟨by omega, by omega, fun e => by have := (hJ.out.2.2.own.lt b e).2; omega⟩), HX.out.2.1, by rw [show (⟨x, A7, c7⟩ : Te).t.ks.length = xl from HX.out.2.2.1]; exact k1, k2⟩ (by have h1 := HX.out.2.2.2; have h2 := HSm.out.2.2; omega)
                  obtain ⟨A8, c8, e8, _⟩ := hto'.shape
                  rw [List.length_append, HX.out.2.2.2, List.length_singleton] at e8
                  subst e8
                  have hmp : (es ++ [(⟨x, A7, c7⟩ : Te)]).map Te.t = ts.take (i + 1) := by
                    rw [List.map_append, hJ.out.2.1, List.take_add_one, HX.out.1]
                    rfl
                  exact ⟨A8, c8, w9, hrun, Lib.hid (And.intro (hb68.trans ((Off.of_grown hg).below hb68.size fun k e => (hJ.out.2.2.own.lt k e).1)) (And.intro hmp hto'))⟩
                go_wp2_with (first
                  | (go_at_call 10; refine HC.out.mono ?_; rintro e w7 ⟨A7, c7, rfl, k1, k2, k3, hb⟩; obtain ⟨w8, hw8⟩ : ∃ w8, w7.alloc (.cells #[.int .u8 (x.k : Int), .string (str x.nm), .int .i64 x.n, .slice A7 xl c7] 24) = w8 := ⟨_, rfl⟩; obtain ⟨A8, c8, w9, hrun, HN⟩ := HPU.out w7 A7 c7 w8 k1 k2 k3 hb hw8; have HRUN := Lib.hid hrun; clear hb k1 k2 k3 hrun z0 z1 z2 z3)
                  | (at_builtin; refine wpList_app rfl _ _ 22 rfl _ _ _ _ rfl rfl HRUN.out ?_; clear HRUN))
                clear hJ HC HX HPU
                go_roundw
                case rel => exact ⟨i + 1, _, _, by omega, rfl, by go_num, HN⟩
                case measure => simp [intOf]; omega
              · obtain rfl : ll = i := by omega
                have hd : decide ((ll : Int) < (ll : Int)) = false := by simp
                have hes : es.map Te.t = ts := by rw [hJ.out.2.1, List.take_of_length_le (by rw [HI.out.2.2.2.2.1]; exact Nat.le_refl _)]
                obtain ⟨Ap, cp, hvp, hpl, hpm, hpA⟩ := hJ.out.2.2.shape
                rw [hes] at hpA
                rw [← List.length_map (f := Te.t), hes, HI.out.2.2.2.2.1] at hvp hpl
                subst hvp
                have HR6 := Lib.hid hJ.out.1
                have hq : ∀ W, Below wr.heap.size wr W → Tb W.heap.size W s A c ∧ Tb W.heap.size W t B d ∧ Tb W.heap.size W s Ax cx ∧ Ty.At (fun b => b < w.heap.size) W L ts := fun W hW => HTs.out W (HR6.out.trans (hW.mono HR6.out.size))
                have hsp := HSm.out.1
                obtain ⟨P, hP⟩ : ∃ P, Ty.put ts s = P := ⟨_, rfl⟩
                obtain ⟨pl, hpl2⟩ : ∃ pl, P.ks.length = pl := ⟨_, rfl⟩
                obtain ⟨rt, hrt⟩ : ∃ rt, s.right = rt := ⟨_, rfl⟩
                obtain ⟨st, hst⟩ : ∃ st, Ty.same s t = st := ⟨_, rfl⟩
                obtain ⟨dp, hdp⟩ : ∃ dp, depthT s = dp := ⟨_, rfl⟩
                have hsl := HI.out.2.2.2.2.2.1
                have htl := HI.out.2.2.2.2.2.2
                have C1 : Hid (∀ W, Below wr.heap.size wr W → Calls Try.prog 11 #[.agg #[.int .u8 (s.k : Int), .string (str s.nm), .int .i64 s.n, .slice Ax sl cx]] W fun e w' => e = .returned (.bool rt) ∧ Below W.heap.size W w') := Lib.hid fun W hW => by
                  have h := right_any s Ax cx W (hq W hW).2.2.1.at_ (hq W hW).2.2.1.len (hq W hW).2.2.1.cap
                  unfold Ty.val at h
                  rw [hsl, hrt] at h
                  exact h
                have C2 : Hid (∀ W, Below wr.heap.size wr W → Calls Try.prog 12 #[.agg #[.int .u8 (s.k : Int), .string (str s.nm), .int .i64 s.n, .slice A sl c]] W fun e w' => e = .returned (.bool rt) ∧ Below W.heap.size W w') := Lib.hid fun W hW => by
                  have h := rright_any s A c W (hq W hW).1.at_ (hq W hW).1.len (hq W hW).1.cap
                  unfold Ty.val at h
                  rw [hsl, hrt] at h
                  exact h
                have C3 : Hid (∀ W, Below wr.heap.size wr W → Calls Try.prog 13 #[.agg #[.int .u8 (s.k : Int), .string (str s.nm), .int .i64 s.n, .slice Ax sl cx], .agg #[.int .u8 (t.k : Int), .string (str t.nm), .int .i64 t.n, .slice B tl d]] W fun e w' => e = .returned (.bool st) ∧ Below W.heap.size W w') := Lib.hid fun W hW => by
                  have h := same_any s t Ax cx B d W (hq W hW).2.2.1.at_ (hq W hW).2.2.1.len (hq W hW).2.2.1.cap (hq W hW).2.1.at_
                  unfold Ty.val at h
                  rw [hsl, htl, hst] at h
                  exact h
                have C4 : Hid (∀ W, Below wr.heap.size wr W → Calls Try.prog 14 #[.agg #[.int .u8 (s.k : Int), .string (str s.nm), .int .i64 s.n, .slice A sl c], .agg #[.int .u8 (t.k : Int), .string (str t.nm), .int .i64 t.n, .slice B tl d]] W fun e w' => e = .returned (.bool st) ∧ Below W.heap.size W w') := Lib.hid fun W hW => by
                  have h := rsame_any s t A c B d W (hq W hW).1.at_ (hq W hW).1.len (hq W hW).1.cap (hq W hW).2.1.at_
                  unfold Ty.val at h
                  rw [hsl, htl, hst] at h
                  exact h
                have C5 : Hid (∀ W, Below wr.heap.size wr W → Calls Try.prog 15 #[.agg #[.int .u8 (s.k : Int), .string (str s.nm), .int .i64 s.n, .slice Ax sl cx]] W fun e w' => e = .returned (.int .i64 (dp : Int)) ∧ Below W.heap.size W w') := Lib.hid fun W hW => by
                  have h := Depth_any s Ax cx W (hq W hW).2.2.1.at_ (hq W hW).2.2.1.len (hq W hW).2.2.1.cap (by have := hsp.2; omega)
                  unfold Ty.val at h
                  rw [hsl, hdp] at h
                  exact h
                have C6 : Hid (∀ W, Below wr.heap.size wr W → Calls Try.prog 16 #[.agg #[.int .u8 (s.k : Int), .string (str s.nm), .int .i64 s.n, .slice A sl c]] W fun e w' => e = .returned (.int .i64 (dp : Int)) ∧ Below W.heap.size W w') := Lib.hid fun W hW => by
                  have h := rDepth_any s A c W (hq W hW).1.at_ (hq W hW).1.len (hq W hW).1.cap (by have := hsp.2; omega)
                  unfold Ty.val at h
                  rw [hsl, hdp] at h
                  exact h
                have C7 : Hid (∀ W, Below wr.heap.size wr W → Calls Try.prog 13 #[.agg #[.int .u8 (s.k : Int), .string (str s.nm), .int .i64 s.n, .slice A sl c], .agg #[.int .u8 (s.k : Int), .string (str s.nm), .int .i64 s.n, .slice A sl c]] W fun e w' => e = .returned (.bool true) ∧ Below W.heap.size W w') := Lib.hid fun W hW => by
                  have h := same_any s s A c A c W (hq W hW).1.at_ (hq W hW).1.len (hq W hW).1.cap (hq W hW).1.at_
                  rw [same_refl] at h
                  unfold Ty.val at h
                  rw [hsl] at h
                  exact h
                have C8 : Hid (∀ W, Below wr.heap.size wr W → Calls Try.prog 17 #[.agg #[.int .u8 (s.k : Int), .string (str s.nm), .int .i64 s.n, .slice Ax sl cx], .slice Ap ll cp] W fun e w' => ∃ A2 c2, e = .returned (.agg #[.int .u8 (P.k : Int), .string (str P.nm), .int .i64 P.n, .slice A2 pl c2]) ∧ Made W w' P A2 c2) := Lib.hid fun W hW => by
                  have h := put_any s Ax cx ts Ap cp W (hq W hW).2.2.1.at_ (hq W hW).2.2.1.len (hq W hW).2.2.1.cap (hq W hW).2.2.1.ok (by have := hsp.1; omega) (hpA.bel hW) (by rw [HI.out.2.2.2.2.1]; exact hpl) hpm (fun u hu => by have := (HAll.out u hu).1; omega)
                  unfold Ty.val at h
                  rw [hP, hsl, hpl2, HI.out.2.2.2.2.1] at h
                  exact h
                have C9 : Hid (∀ W, Below wr.heap.size wr W → Calls Try.prog 18 #[.agg #[.int .u8 (s.k : Int), .string (str s.nm), .int .i64 s.n, .slice A sl c], .slice L ll lc] W fun e w' => ∃ A3 c3, e = .returned (.agg #[.int .u8 (P.k : Int), .string (str P.nm), .int .i64 P.n, .slice A3 pl c3]) ∧ MadeF (fun b => b < w.heap.size) W w' P A3 c3) := Lib.hid fun W hW => by
                  have hbw : Below w.heap.size w W := HI.out.1.trans ((HB06.out.trans ((HR6.out.trans (hW.mono HR6.out.size)).mono HB06.out.size)).mono HI.out.1.size)
                  have h := rput_any (F := fun b => b < w.heap.size) ts L lc s A c W (HI.out.2.1.bel hbw).at_ HI.out.2.1.len HI.out.2.1.cap HI.out.2.1.ok (by have := hsp.1; omega) (fun b hb => Nat.lt_of_lt_of_le hb hbw.size) (hq W hW).2.2.2
                  unfold Ty.val at h
                  rw [hP, hsl, hpl2, HI.out.2.2.2.2.1] at h
                  exact h
                have CS : Hid (∀ (W : World) (A2 A3 : Option Addr) (c2 c3 : Nat) (F G : Nat → Prop), Ty.At F W A2 P.ks → pl ≤ c2 → c2 ≤ maxLen → Ty.At G W A3 P.ks → Calls Try.prog 14 #[.agg #[.int .u8 (P.k : Int), .string (str P.nm), .int .i64 P.n, .slice A2 pl c2], .agg #[.int .u8 (P.k : Int), .string (str P.nm), .int .i64 P.n, .slice A3 pl c3]] W fun e w' => e = .returned (.bool true) ∧ Below W.heap.size W w') := Lib.hid fun W A2 A3 c2 c3 F G k1 k2 k3 k4 => by
                  have h := rsame_any P P A2 c2 A3 c3 W k1 (by rw [hpl2]; exact k2) k3 k4
                  rw [same_refl] at h
                  unfold Ty.val at h
                  rw [hpl2] at h
                  exact h
                have C10 : Hid (∀ W, Below wr.heap.size wr W → Calls Try.prog 14 #[.agg #[.int .u8 (s.k : Int), .string (str s.nm), .int .i64 s.n, .slice Ax sl cx], .agg #[.int .u8 (s.k : Int), .string (str s.nm), .int .i64 s.n, .slice A sl c]] W fun e w' => e = .returned (.bool true) ∧ Below W.heap.size W w') := Lib.hid fun W hW => by
                  have h := rsame_any s s Ax cx A c W (hq W hW).2.2.1.at_ (hq W hW).2.2.1.len (hq W hW).2.2.1.cap (hq W hW).1.at_
                  rw [same_refl] at h
                  unfold Ty.val at h
                  rw [hsl] at h
                  exact h
                have HPL := Lib.hid hpl2
                have HE0 := Lib.hid (Below.drew (Below.refl wr.heap.size wr))
                have hbs := bne_self rt
                have hbt := bne_self st
                have hbd : ((dp : Int) != (dp : Int)) = false := by simp
                have HBks := Lib.hid (HBks.out.below HR6.out HBks.out.lt)
                have HBkt := Lib.hid (HBkt.out.below HR6.out HBkt.out.lt)
                have HBkx := Lib.hid (HBkx.out.below HR6.out HBkx.out.lt)
                have bx := HBks.out.below (Below.refl wr.heap.size wr) HBks.out.lt
                have s0e := bx.cell 0
                have s1e := bx.cell 1
                have s2e := bx.cell 2
                have s3e := bx.cell 3
                simp only [List.getElem?_toArray, List.getElem?_cons_zero, List.getElem?_cons_succ] at s0e s1e s2e s3e
                clear bx
                have bx := HBkt.out.below (Below.refl wr.heap.size wr) HBkt.out.lt
                have t0e := bx.cell 0
                have t1e := bx.cell 1
                have t2e := bx.cell 2
                have t3e := bx.cell 3
                simp only [List.getElem?_toArray, List.getElem?_cons_zero, List.getElem?_cons_succ] at t0e t1e t2e t3e
                clear bx
                have bx := HBkx.out.below (Below.refl wr.heap.size wr) HBkx.out.lt
                have x0e := bx.cell 0
                have x1e := bx.cell 1
                have x2e := bx.cell 2
                have x3e := bx.cell 3
                simp only [List.getElem?_toArray, List.getElem?_cons_zero, List.getElem?_cons_succ] at x0e x1e x2e x3e
                clear bx
                clear hes hpA hpl hpm hq hsp hP hpl2 hrt hst hdp hsl htl hJ HTs
                go_upto_region 14 with fail
                refine wp_region_held_drew (S := (fun W => W.cell? ⟨w.heap.size, 0, none⟩ = some (.int .u8 (s.k : Int)) ∧ W.cell? ⟨w.heap.size, 1, none⟩ = some (.string (str s.nm)) ∧ W.cell? ⟨w.heap.size, 2, none⟩ = some (.int .i64 s.n) ∧ W.cell? ⟨w.heap.size, 3, none⟩ = some (.slice A sl c) ∧ W.cell? ⟨(w.heap.size + 1), 0, none⟩ = some (.int .u8 (t.k : Int)) ∧ W.cell? ⟨(w.heap.size + 1), 1, none⟩ = some (.string (str t.nm)) ∧ W.cell? ⟨(w.heap.size + 1), 2, none⟩ = some (.int .i64 t.n) ∧ W.cell? ⟨(w.heap.size + 1), 3, none⟩ = some (.slice B tl d) ∧ W.cell? ⟨px, 0, none⟩ = some (.int .u8 (s.k : Int)) ∧ W.cell? ⟨px, 1, none⟩ = some (.string (str s.nm)) ∧ W.cell? ⟨px, 2, none⟩ = some (.int .i64 s.n) ∧ W.cell? ⟨px, 3, none⟩ = some (.slice Ax sl cx))) (by kernel_rfl) ⟨s0e, s1e, s2e, s3e, t0e, t1e, t2e, t3e, x0e, x1e, x2e, x3e⟩ (fun hHeld => ?_)
                refine takeY 0 (some 51) rfl rfl (by kernel_rfl) (by kernel_rfl) (by kernel_rfl) (fun _ _ _ h => h) (by rfl) (v := _) (by (intro _ hSw; (try dsimp only at hSw); go_simp; try with_reducible rfl)) hHeld ?_
                simp only [Act.put, List.setIfInBounds_toArray, List.set_cons_zero, List.set_cons_succ]
                refine takeY 2 (some 53) rfl rfl (by kernel_rfl) (by kernel_rfl) (by kernel_rfl) (fun _ _ _ h => h) (by rfl) (v := _) (by (intro _ hSw; (try dsimp only at hSw); go_simp; try with_reducible rfl)) hHeld ?_
                simp only [Act.put, List.setIfInBounds_toArray, List.set_cons_zero, List.set_cons_succ]
                refine wpAnyH_ready (rs := [1]) (by kernel_rfl) (by simp) ?_
                refine AllReadyH.cons rfl (fun K hK => ?_) AllReadyH.nil
                clear hHeld
                go_simp
                go_wp2_with (go_at_call 11; refine Calls.mono (C1.out _ HE0.out) ?_; rintro e v1 ⟨rfl, hb⟩; have HE1 := Lib.hid (HE0.out.trans (hb.mono HE0.out.size)); clear hb s0e s1e s2e s3e t0e t1e t2e t3e x0e x1e x2e x3e; have bx := HBks.out.below HE1.out HBks.out.lt; have s0q1 := bx.cell 0; have s1q1 := bx.cell 1; have s2q1 := bx.cell 2; have s3q1 := bx.cell 3; simp only [List.getElem?_toArray, List.getElem?_cons_zero, List.getElem?_cons_succ] at s0q1 s1q1 s2q1 s3q1; clear bx; have bx := HBkt.out.below HE1.out HBkt.out.lt; have t0q1 := bx.cell 0; have t1q1 := bx.cell 1; have t2q1 := bx.cell 2; have t3q1 := bx.cell 3; simp only [List.getElem?_toArray, List.getElem?_cons_zero, List.getElem?_cons_succ] at t0q1 t1q1 t2q1 t3q1; clear bx; have bx := HBkx.out.below HE1.out HBkx.out.lt; have x0q1 := bx.cell 0; have x1q1 := bx.cell 1; have x2q1 := bx.cell 2; have x3q1 := bx.cell 3; simp only [List.getElem?_toArray, List.getElem?_cons_zero, List.getElem?_cons_succ] at x0q1 x1q1 x2q1 x3q1; clear bx)
                refine hK.out _ _ ⟨s0q1, s1q1, s2q1, s3q1, t0q1, t1q1, t2q1, t3q1, x0q1, x1q1, x2q1, x3q1⟩ (fun hHeld => ?_)
                clear hK K
                refine wpAnyH_ready (rs := [3]) (by kernel_rfl) (by simp) ?_
                refine AllReadyH.cons rfl (fun K hK => ?_) AllReadyH.nil
                clear hHeld
                go_simp
                go_wp2_with (go_at_call 12; refine Calls.mono (C2.out _ HE1.out) ?_; rintro e v2 ⟨rfl, hb⟩; have HE2 := Lib.hid (HE1.out.trans (hb.mono HE1.out.size)); clear hb s0q1 s1q1 s2q1 s3q1 t0q1 t1q1 t2q1 t3q1 x0q1 x1q1 x2q1 x3q1; have bx := HBks.out.below HE2.out HBks.out.lt; have s0q2 := bx.cell 0; have s1q2 := bx.cell 1; have s2q2 := bx.cell 2; have s3q2 := bx.cell 3; simp only [List.getElem?_toArray, List.getElem?_cons_zero, List.getElem?_cons_succ] at s0q2 s1q2 s2q2 s3q2; clear bx; have bx := HBkt.out.below HE2.out HBkt.out.lt; have t0q2 := bx.cell 0; have t1q2 := bx.cell 1; have t2q2 := bx.cell 2; have t3q2 := bx.cell 3; simp only [List.getElem?_toArray, List.getElem?_cons_zero, List.getElem?_cons_succ] at t0q2 t1q2 t2q2 t3q2; clear bx; have bx := HBkx.out.below HE2.out HBkx.out.lt; have x0q2 := bx.cell 0; have x1q2 := bx.cell 1; have x2q2 := bx.cell 2; have x3q2 := bx.cell 3; simp only [List.getElem?_toArray, List.getElem?_cons_zero, List.getElem?_cons_succ] at x0q2 x1q2 x2q2 x3q2; clear bx)
                refine hK.out _ _ ⟨s0q2, s1q2, s2q2, s3q2, t0q2, t1q2, t2q2, t3q2, x0q2, x1q2, x2q2, x3q2⟩ (fun hHeld => ?_)
                clear hK K
                refine takeY 4 (some 55) rfl rfl (by kernel_rfl) (by kernel_rfl) (by kernel_rfl) (fun _ _ _ h => h) (by rfl) (v := _) (by (intro _ hSw; (try dsimp only at hSw); go_simp; try with_reducible rfl)) hHeld ?_
                simp only [Act.put, List.setIfInBounds_toArray, List.set_cons_zero, List.set_cons_succ]
                refine takeY 5 (some 56) rfl rfl (by kernel_rfl) (by kernel_rfl) (by kernel_rfl) (fun _ _ _ h => h) (by rfl) (v := _) (by (intro _ hSw; (try dsimp only at hSw); go_simp; try with_reducible rfl)) hHeld ?_
                simp only [Act.put, List.setIfInBounds_toArray, List.set_cons_zero, List.set_cons_succ]
                refine takeY 6 (some 57) rfl rfl (by kernel_rfl) (by kernel_rfl) (by kernel_rfl) (fun _ _ _ h => h) (by rfl) (v := _) (by (intro _ hSw; (try dsimp only at hSw); go_simp; try with_reducible rfl)) hHeld ?_
                simp only [Act.put, List.setIfInBounds_toArray, List.set_cons_zero, List.set_cons_succ]
                refine takeY 7 (some 58) rfl rfl (by kernel_rfl) (by kernel_rfl) (by kernel_rfl) (fun _ _ _ h => h) (by rfl) (v := _) (by (intro _ hSw; (try dsimp only at hSw); go_simp; try with_reducible rfl)) hHeld ?_
                simp only [Act.put, List.setIfInBounds_toArray, List.set_cons_zero, List.set_cons_succ]
                refine takeY 9 (some 60) rfl rfl (by kernel_rfl) (by kernel_rfl) (by kernel_rfl) (fun _ _ _ h => h) (by rfl) (v := _) (by (intro _ hSw; (try dsimp only at hSw); go_simp; try with_reducible rfl)) hHeld ?_
                simp only [Act.put, List.setIfInBounds_toArray, List.set_cons_zero, List.set_cons_succ]
                refine takeY 10 (some 61) rfl rfl (by kernel_rfl) (by kernel_rfl) (by kernel_rfl) (fun _ _ _ h => h) (by rfl) (v := _) (by (intro _ hSw; (try dsimp only at hSw); go_simp; try with_reducible rfl)) hHeld ?_
                simp only [Act.put, List.setIfInBounds_toArray, List.set_cons_zero, List.set_cons_succ]
                refine wpAnyH_ready (rs := [8]) (by kernel_rfl) (by simp) ?_
                refine AllReadyH.cons rfl (fun K hK => ?_) AllReadyH.nil
                clear hHeld
                go_simp
                go_wp2_with (go_at_call 13; refine Calls.mono (C3.out _ HE2.out) ?_; rintro e v3 ⟨rfl, hb⟩; have HE3 := Lib.hid (HE2.out.trans (hb.mono HE2.out.size)); clear hb s0q2 s1q2 s2q2 s3q2 t0q2 t1q2 t2q2 t3q2 x0q2 x1q2 x2q2 x3q2; have bx := HBks.out.below HE3.out HBks.out.lt; have s0q3 := bx.cell 0; have s1q3 := bx.cell 1; have s2q3 := bx.cell 2; have s3q3 := bx.cell 3; simp only [List.getElem?_toArray, List.getElem?_cons_zero, List.getElem?_cons_succ] at s0q3 s1q3 s2q3 s3q3; clear bx; have bx := HBkt.out.below HE3.out HBkt.out.lt; have t0q3 := bx.cell 0; have t1q3 := bx.cell 1; have t2q3 := bx.cell 2; have t3q3 := bx.cell 3; simp only [List.getElem?_toArray, List.getElem?_cons_zero, List.getElem?_cons_succ] at t0q3 t1q3 t2q3 t3q3; clear bx; have bx := HBkx.out.below HE3.out HBkx.out.lt; have x0q3 := bx.cell 0; have x1q3 := bx.cell 1; have x2q3 := bx.cell 2; have x3q3 := bx.cell 3; simp only [List.getElem?_toArray, List.getElem?_cons_zero, List.getElem?_cons_succ] at x0q3 x1q3 x2q3 x3q3; clear bx)
                refine hK.out _ _ ⟨s0q3, s1q3, s2q3, s3q3, t0q3, t1q3, t2q3, t3q3, x0q3, x1q3, x2q3, x3q3⟩ (fun hHeld => ?_)
                clear hK K
                refine wpAnyH_ready (rs := [11]) (by kernel_rfl) (by simp) ?_
                refine AllReadyH.cons rfl (fun K hK => ?_) AllReadyH.nil
                clear hHeld
                go_simp
                go_wp2_with (go_at_call 14; refine Calls.mono (C4.out _ HE3.out) ?_; rintro e v4 ⟨rfl, hb⟩; have HE4 := Lib.hid (HE3.out.trans (hb.mono HE3.out.size)); clear hb s0q3 s1q3 s2q3 s3q3 t0q3 t1q3 t2q3 t3q3 x0q3 x1q3 x2q3 x3q3; have bx := HBks.out.below HE4.out HBks.out.lt; have s0q4 := bx.cell 0; have s1q4 := bx.cell 1; have s2q4 := bx.cell 2; have s3q4 := bx.cell 3; simp only [List.getElem?_toArray, List.getElem?_cons_zero, List.getElem?_cons_succ] at s0q4 s1q4 s2q4 s3q4; clear bx; have bx := HBkt.out.below HE4.out HBkt.out.lt; have t0q4 := bx.cell 0; have t1q4 := bx.cell 1; have t2q4 := bx.cell 2; have t3q4 := bx.cell 3; simp only [List.getElem?_toArray, List.getElem?_cons_zero, List.getElem?_cons_succ] at t0q4 t1q4 t2q4 t3q4; clear bx; have bx := HBkx.out.below HE4.out HBkx.out.lt; have x0q4 := bx.cell 0; have x1q4 := bx.cell 1; have x2q4 := bx.cell 2; have x3q4 := bx.cell 3; simp only [List.getElem?_toArray, List.getElem?_cons_zero, List.getElem?_cons_succ] at x0q4 x1q4 x2q4 x3q4; clear bx)
                refine hK.out _ _ ⟨s0q4, s1q4, s2q4, s3q4, t0q4, t1q4, t2q4, t3q4, x0q4, x1q4, x2q4, x3q4⟩ (fun hHeld => ?_)
                clear hK K
                refine takeY 12 (some 63) rfl rfl (by kernel_rfl) (by kernel_rfl) (by kernel_rfl) (fun _ _ _ h => h) (by rfl) (v := _) (by (intro _ hSw; (try dsimp only at hSw); go_simp; try with_reducible rfl)) hHeld ?_
                simp only [Act.put, List.setIfInBounds_toArray, List.set_cons_zero, List.set_cons_succ]
                refine takeY 13 (some 64) rfl rfl (by kernel_rfl) (by kernel_rfl) (by kernel_rfl) (fun _ _ _ h => h) (by rfl) (v := _) (by (intro _ hSw; (try dsimp only at hSw); go_simp; try with_reducible rfl)) hHeld ?_
                simp only [Act.put, List.setIfInBounds_toArray, List.set_cons_zero, List.set_cons_succ]
                refine takeY 14 (some 65) rfl rfl (by kernel_rfl) (by kernel_rfl) (by kernel_rfl) (fun _ _ _ h => h) (by rfl) (v := _) (by (intro _ hSw; (try dsimp only at hSw); go_simp; try with_reducible rfl)) hHeld ?_
                simp only [Act.put, List.setIfInBounds_toArray, List.set_cons_zero, List.set_cons_succ]
                refine takeY 15 (some 66) rfl rfl (by kernel_rfl) (by kernel_rfl) (by kernel_rfl) (fun _ _ _ h => h) (by rfl) (v := _) (by (intro _ hSw; (try dsimp only at hSw); go_simp; try with_reducible rfl)) hHeld ?_
                simp only [Act.put, List.setIfInBounds_toArray, List.set_cons_zero, List.set_cons_succ]
                refine takeY 17 (some 68) rfl rfl (by kernel_rfl) (by kernel_rfl) (by kernel_rfl) (fun _ _ _ h => h) (by rfl) (v := _) (by (intro _ hSw; (try dsimp only at hSw); go_simp; try with_reducible rfl)) hHeld ?_
                simp only [Act.put, List.setIfInBounds_toArray, List.set_cons_zero, List.set_cons_succ]
                refine wpAnyH_ready (rs := [16]) (by kernel_rfl) (by simp) ?_
                refine AllReadyH.cons rfl (fun K hK => ?_) AllReadyH.nil
                clear hHeld
                go_simp
                go_wp2_with (go_at_call 15; refine Calls.mono (C5.out _ HE4.out) ?_; rintro e v5 ⟨rfl, hb⟩; have HE5 := Lib.hid (HE4.out.trans (hb.mono HE4.out.size)); clear hb s0q4 s1q4 s2q4 s3q4 t0q4 t1q4 t2q4 t3q4 x0q4 x1q4 x2q4 x3q4; have bx := HBks.out.below HE5.out HBks.out.lt; have s0q5 := bx.cell 0; have s1q5 := bx.cell 1; have s2q5 := bx.cell 2; have s3q5 := bx.cell 3; simp only [List.getElem?_toArray, List.getElem?_cons_zero, List.getElem?_cons_succ] at s0q5 s1q5 s2q5 s3q5; clear bx; have bx := HBkt.out.below HE5.out HBkt.out.lt; have t0q5 := bx.cell 0; have t1q5 := bx.cell 1; have t2q5 := bx.cell 2; have t3q5 := bx.cell 3; simp only [List.getElem?_toArray, List.getElem?_cons_zero, List.getElem?_cons_succ] at t0q5 t1q5 t2q5 t3q5; clear bx; have bx := HBkx.out.below HE5.out HBkx.out.lt; have x0q5 := bx.cell 0; have x1q5 := bx.cell 1; have x2q5 := bx.cell 2; have x3q5 := bx.cell 3; simp only [List.getElem?_toArray, List.getElem?_cons_zero, List.getElem?_cons_succ] at x0q5 x1q5 x2q5 x3q5; clear bx)
                refine hK.out _ _ ⟨s0q5, s1q5, s2q5, s3q5, t0q5, t1q5, t2q5, t3q5, x0q5, x1q5, x2q5, x3q5⟩ (fun hHeld => ?_)
                clear hK K
                refine wpAnyH_ready (rs := [18]) (by kernel_rfl) (by simp) ?_
                refine AllReadyH.cons rfl (fun K hK => ?_) AllReadyH.nil
                clear hHeld
                go_simp
                go_wp2_with (go_at_call 16; refine Calls.mono (C6.out _ HE5.out) ?_; rintro e v6 ⟨rfl, hb⟩; have HE6 := Lib.hid (HE5.out.trans (hb.mono HE5.out.size)); clear hb s0q5 s1q5 s2q5 s3q5 t0q5 t1q5 t2q5 t3q5 x0q5 x1q5 x2q5 x3q5; have bx := HBks.out.below HE6.out HBks.out.lt; have s0q6 := bx.cell 0; have s1q6 := bx.cell 1; have s2q6 := bx.cell 2; have s3q6 := bx.cell 3; simp only [List.getElem?_toArray, List.getElem?_cons_zero, List.getElem?_cons_succ] at s0q6 s1q6 s2q6 s3q6; clear bx; have bx := HBkt.out.below HE6.out HBkt.out.lt; have t0q6 := bx.cell 0; have t1q6 := bx.cell 1; have t2q6 := bx.cell 2; have t3q6 := bx.cell 3; simp only [List.getElem?_toArray, List.getElem?_cons_zero, List.getElem?_cons_succ] at t0q6 t1q6 t2q6 t3q6; clear bx; have bx := HBkx.out.below HE6.out HBkx.out.lt; have x0q6 := bx.cell 0; have x1q6 := bx.cell 1; have x2q6 := bx.cell 2; have x3q6 := bx.cell 3; simp only [List.getElem?_toArray, List.getElem?_cons_zero, List.getElem?_cons_succ] at x0q6 x1q6 x2q6 x3q6; clear bx)
                refine hK.out _ _ ⟨s0q6, s1q6, s2q6, s3q6, t0q6, t1q6, t2q6, t3q6, x0q6, x1q6, x2q6, x3q6⟩ (fun hHeld => ?_)
                clear hK K
                refine takeY 19 (some 70) rfl rfl (by kernel_rfl) (by kernel_rfl) (by kernel_rfl) (fun _ _ _ h => h) (by rfl) (v := _) (by (intro _ hSw; (try dsimp only at hSw); go_simp; try with_reducible rfl)) hHeld ?_
                simp only [Act.put, List.setIfInBounds_toArray, List.set_cons_zero, List.set_cons_succ]
                refine takeY 20 (some 71) rfl rfl (by kernel_rfl) (by kernel_rfl) (by kernel_rfl) (fun _ _ _ h => h) (by rfl) (v := _) (by (intro _ hSw; (try dsimp only at hSw); go_simp; try with_reducible rfl)) hHeld ?_
                simp only [Act.put, List.setIfInBounds_toArray, List.set_cons_zero, List.set_cons_succ]
                refine wpAnyH_done (by kernel_rfl) ?_ _
                clear hHeld C1 C2 C3 C4 C5 C6
                go_upto_region 16 with fail
                have HE7 := Lib.hid (HE6.out.drew)
                refine wp_region_held_drew (S := (fun W => W.cell? ⟨w.heap.size, 0, none⟩ = some (.int .u8 (s.k : Int)) ∧ W.cell? ⟨w.heap.size, 1, none⟩ = some (.string (str s.nm)) ∧ W.cell? ⟨w.heap.size, 2, none⟩ = some (.int .i64 s.n) ∧ W.cell? ⟨w.heap.size, 3, none⟩ = some (.slice A sl c) ∧ W.cell? ⟨(w.heap.size + 1), 0, none⟩ = some (.int .u8 (t.k : Int)) ∧ W.cell? ⟨(w.heap.size + 1), 1, none⟩ = some (.string (str t.nm)) ∧ W.cell? ⟨(w.heap.size + 1), 2, none⟩ = some (.int .i64 t.n) ∧ W.cell? ⟨(w.heap.size + 1), 3, none⟩ = some (.slice B tl d) ∧ W.cell? ⟨px, 0, none⟩ = some (.int .u8 (s.k : Int)) ∧ W.cell? ⟨px, 1, none⟩ = some (.string (str s.nm)) ∧ W.cell? ⟨px, 2, none⟩ = some (.int .i64 s.n) ∧ W.cell? ⟨px, 3, none⟩ = some (.slice Ax sl cx))) (by kernel_rfl) ⟨s0q6, s1q6, s2q6, s3q6, t0q6, t1q6, t2q6, t3q6, x0q6, x1q6, x2q6, x3q6⟩ (fun hHeld => ?_)
                refine takeY 0 (some 72) rfl rfl (by kernel_rfl) (by kernel_rfl) (by kernel_rfl) (fun _ _ _ h => h) (by rfl) (v := _) (by (intro _ hSw; (try dsimp only at hSw); go_simp; try with_reducible rfl)) hHeld ?_
                simp only [Act.put, List.setIfInBounds_toArray, List.set_cons_zero, List.set_cons_succ]
                refine takeY 1 (some 73) rfl rfl (by kernel_rfl) (by kernel_rfl) (by kernel_rfl) (fun _ _ _ h => h) (by rfl) (v := _) (by (intro _ hSw; (try dsimp only at hSw); go_simp; try with_reducible rfl)) hHeld ?_
                simp only [Act.put, List.setIfInBounds_toArray, List.set_cons_zero, List.set_cons_succ]
                refine wpAnyH_ready (rs := [2]) (by kernel_rfl) (by simp) ?_
                refine AllReadyH.cons rfl (fun K hK => ?_) AllReadyH.nil
                clear hHeld
                go_simp
                go_wp2_with (go_at_call 13; refine Calls.mono (C7.out _ HE7.out) ?_; rintro e v8 ⟨rfl, hb⟩; have HE8 := Lib.hid (HE7.out.trans (hb.mono HE7.out.size)); clear hb s0q6 s1q6 s2q6 s3q6 t0q6 t1q6 t2q6 t3q6 x0q6 x1q6 x2q6 x3q6; have bx := HBks.out.below HE8.out HBks.out.lt; have s0q8 := bx.cell 0; have s1q8 := bx.cell 1; have s2q8 := bx.cell 2; have s3q8 := bx.cell 3; simp only [List.getElem?_toArray, List.getElem?_cons_zero, List.getElem?_cons_succ] at s0q8 s1q8 s2q8 s3q8; clear bx; have bx := HBkt.out.below HE8.out HBkt.out.lt; have t0q8 := bx.cell 0; have t1q8 := bx.cell 1; have t2q8 := bx.cell 2; have t3q8 := bx.cell 3; simp only [List.getElem?_toArray, List.getElem?_cons_zero, List.getElem?_cons_succ] at t0q8 t1q8 t2q8 t3q8; clear bx; have bx := HBkx.out.below HE8.out HBkx.out.lt; have x0q8 := bx.cell 0; have x1q8 := bx.cell 1; have x2q8 := bx.cell 2; have x3q8 := bx.cell 3; simp only [List.getElem?_toArray, List.getElem?_cons_zero, List.getElem?_cons_succ] at x0q8 x1q8 x2q8 x3q8; clear bx)
                refine hK.out _ _ ⟨s0q8, s1q8, s2q8, s3q8, t0q8, t1q8, t2q8, t3q8, x0q8, x1q8, x2q8, x3q8⟩ (fun hHeld => ?_)
                clear hK K
                refine takeY 3 (some 75) rfl rfl (by kernel_rfl) (by kernel_rfl) (by kernel_rfl) (fun _ _ _ h => h) (by rfl) (v := _) (by (intro _ hSw; (try dsimp only at hSw); go_simp; try with_reducible rfl)) hHeld ?_
                simp only [Act.put, List.setIfInBounds_toArray, List.set_cons_zero, List.set_cons_succ]
                refine takeY 4 (some 76) rfl rfl (by kernel_rfl) (by kernel_rfl) (by kernel_rfl) (fun _ _ _ h => h) (by rfl) (v := _) (by (intro _ hSw; (try dsimp only at hSw); go_simp; try with_reducible rfl)) hHeld ?_
                simp only [Act.put, List.setIfInBounds_toArray, List.set_cons_zero, List.set_cons_succ]
                refine takeY 5 (some 77) rfl rfl (by kernel_rfl) (by kernel_rfl) (by kernel_rfl) (fun _ _ _ h => h) (by rfl) (v := _) (by (intro _ hSw; (try dsimp only at hSw); go_simp; try with_reducible rfl)) hHeld ?_
                simp only [Act.put, List.setIfInBounds_toArray, List.set_cons_zero, List.set_cons_succ]
                refine takeY 7 (some 79) rfl rfl (by kernel_rfl) (by kernel_rfl) (by kernel_rfl) (fun _ _ _ h => h) (by rfl) (v := _) (by (intro _ hSw; (try dsimp only at hSw); go_simp; try with_reducible rfl)) hHeld ?_
                simp only [Act.put, List.setIfInBounds_toArray, List.set_cons_zero, List.set_cons_succ]
                refine takeY 8 (some 80) rfl rfl (by kernel_rfl) (by kernel_rfl) (by kernel_rfl) (fun _ _ _ h => h) (by rfl) (v := _) (by (intro _ hSw; (try dsimp only at hSw); go_simp; try with_reducible rfl)) hHeld ?_
                simp only [Act.put, List.setIfInBounds_toArray, List.set_cons_zero, List.set_cons_succ]
                refine wpAnyH_ready (rs := [6]) (by kernel_rfl) (by simp) ?_
                refine AllReadyH.cons rfl (fun K hK => ?_) AllReadyH.nil
                clear hHeld
                go_simp
                go_wp2_with (go_at_call 17; refine Calls.mono (C8.out _ HE8.out) ?_; rintro e v9 ⟨A2, c2, rfl, hm⟩; have hb := hm.bel; have HM2 := Lib.hid hm; clear hm; have HE9 := Lib.hid (HE8.out.trans (hb.mono HE8.out.size)); clear hb s0q8 s1q8 s2q8 s3q8 t0q8 t1q8 t2q8 t3q8 x0q8 x1q8 x2q8 x3q8; have bx := HBks.out.below HE9.out HBks.out.lt; have s0q9 := bx.cell 0; have s1q9 := bx.cell 1; have s2q9 := bx.cell 2; have s3q9 := bx.cell 3; simp only [List.getElem?_toArray, List.getElem?_cons_zero, List.getElem?_cons_succ] at s0q9 s1q9 s2q9 s3q9; clear bx; have bx := HBkt.out.below HE9.out HBkt.out.lt; have t0q9 := bx.cell 0; have t1q9 := bx.cell 1; have t2q9 := bx.cell 2; have t3q9 := bx.cell 3; simp only [List.getElem?_toArray, List.getElem?_cons_zero, List.getElem?_cons_succ] at t0q9 t1q9 t2q9 t3q9; clear bx; have bx := HBkx.out.below HE9.out HBkx.out.lt; have x0q9 := bx.cell 0; have x1q9 := bx.cell 1; have x2q9 := bx.cell 2; have x3q9 := bx.cell 3; simp only [List.getElem?_toArray, List.getElem?_cons_zero, List.getElem?_cons_succ] at x0q9 x1q9 x2q9 x3q9; clear bx)
                refine hK.out _ _ ⟨s0q9, s1q9, s2q9, s3q9, t0q9, t1q9, t2q9, t3q9, x0q9, x1q9, x2q9, x3q9⟩ (fun hHeld => ?_)
                clear hK K
                refine wpAnyH_ready (rs := [9]) (by kernel_rfl) (by simp) ?_
                refine AllReadyH.cons rfl (fun K hK => ?_) AllReadyH.nil
                clear hHeld
                go_simp
                go_wp2_with (go_at_call 18; refine Calls.mono (C9.out _ HE9.out) ?_; rintro e v10 ⟨A3, c3, rfl, hm⟩; have hb := hm.bel; have HM2b := Lib.hid (HM2.out.at_.bel hb); have HM3 := Lib.hid hm; clear hm; have HE10 := Lib.hid (HE9.out.trans (hb.mono HE9.out.size)); clear hb s0q9 s1q9 s2q9 s3q9 t0q9 t1q9 t2q9 t3q9 x0q9 x1q9 x2q9 x3q9; have bx := HBks.out.below HE10.out HBks.out.lt; have s0q10 := bx.cell 0; have s1q10 := bx.cell 1; have s2q10 := bx.cell 2; have s3q10 := bx.cell 3; simp only [List.getElem?_toArray, List.getElem?_cons_zero, List.getElem?_cons_succ] at s0q10 s1q10 s2q10 s3q10; clear bx; have bx := HBkt.out.below HE10.out HBkt.out.lt; have t0q10 := bx.cell 0; have t1q10 := bx.cell 1; have t2q10 := bx.cell 2; have t3q10 := bx.cell 3; simp only [List.getElem?_toArray, List.getElem?_cons_zero, List.getElem?_cons_succ] at t0q10 t1q10 t2q10 t3q10; clear bx; have bx := HBkx.out.below HE10.out HBkx.out.lt; have x0q10 := bx.cell 0; have x1q10 := bx.cell 1; have x2q10 := bx.cell 2; have x3q10 := bx.cell 3; simp only [List.getElem?_toArray, List.getElem?_cons_zero, List.getElem?_cons_succ] at x0q10 x1q10 x2q10 x3q10; clear bx)
                refine hK.out _ _ ⟨s0q10, s1q10, s2q10, s3q10, t0q10, t1q10, t2q10, t3q10, x0q10, x1q10, x2q10, x3q10⟩ (fun hHeld => ?_)
                clear hK K
                refine wpAnyH_ready (rs := [10]) (by kernel_rfl) (by simp) ?_
                refine AllReadyH.cons rfl (fun K hK => ?_) AllReadyH.nil
                clear hHeld
                go_simp
                go_wp2_with (go_at_call 14; refine Calls.mono (CS.out _ A2 A3 c2 c3 _ _ HM2b.out (by rw [← HPL.out]; exact HM2.out.len) HM2.out.cap HM3.out.at_) ?_; rintro e v11 ⟨rfl, hb⟩; have HE11 := Lib.hid (HE10.out.trans (hb.mono HE10.out.size)); clear hb s0q10 s1q10 s2q10 s3q10 t0q10 t1q10 t2q10 t3q10 x0q10 x1q10 x2q10 x3q10; have bx := HBks.out.below HE11.out HBks.out.lt; have s0q11 := bx.cell 0; have s1q11 := bx.cell 1; have s2q11 := bx.cell 2; have s3q11 := bx.cell 3; simp only [List.getElem?_toArray, List.getElem?_cons_zero, List.getElem?_cons_succ] at s0q11 s1q11 s2q11 s3q11; clear bx; have bx := HBkt.out.below HE11.out HBkt.out.lt; have t0q11 := bx.cell 0; have t1q11 := bx.cell 1; have t2q11 := bx.cell 2; have t3q11 := bx.cell 3; simp only [List.getElem?_toArray, List.getElem?_cons_zero, List.getElem?_cons_succ] at t0q11 t1q11 t2q11 t3q11; clear bx; have bx := HBkx.out.below HE11.out HBkx.out.lt; have x0q11 := bx.cell 0; have x1q11 := bx.cell 1; have x2q11 := bx.cell 2; have x3q11 := bx.cell 3; simp only [List.getElem?_toArray, List.getElem?_cons_zero, List.getElem?_cons_succ] at x0q11 x1q11 x2q11 x3q11; clear bx)
                refine hK.out _ _ ⟨s0q11, s1q11, s2q11, s3q11, t0q11, t1q11, t2q11, t3q11, x0q11, x1q11, x2q11, x3q11⟩ (fun hHeld => ?_)
                clear hK K
                refine takeY 11 (some 83) rfl rfl (by kernel_rfl) (by kernel_rfl) (by kernel_rfl) (fun _ _ _ h => h) (by rfl) (v := _) (by (intro _ hSw; (try dsimp only at hSw); go_simp; try with_reducible rfl)) hHeld ?_
                simp only [Act.put, List.setIfInBounds_toArray, List.set_cons_zero, List.set_cons_succ]
                refine takeY 12 (some 84) rfl rfl (by kernel_rfl) (by kernel_rfl) (by kernel_rfl) (fun _ _ _ h => h) (by rfl) (v := _) (by (intro _ hSw; (try dsimp only at hSw); go_simp; try with_reducible rfl)) hHeld ?_
                simp only [Act.put, List.setIfInBounds_toArray, List.set_cons_zero, List.set_cons_succ]
                refine takeY 13 (some 85) rfl rfl (by kernel_rfl) (by kernel_rfl) (by kernel_rfl) (fun _ _ _ h => h) (by rfl) (v := _) (by (intro _ hSw; (try dsimp only at hSw); go_simp; try with_reducible rfl)) hHeld ?_
                simp only [Act.put, List.setIfInBounds_toArray, List.set_cons_zero, List.set_cons_succ]
                refine takeY 14 (some 86) rfl rfl (by kernel_rfl) (by kernel_rfl) (by kernel_rfl) (fun _ _ _ h => h) (by rfl) (v := _) (by (intro _ hSw; (try dsimp only at hSw); go_simp; try with_reducible rfl)) hHeld ?_
                simp only [Act.put, List.setIfInBounds_toArray, List.set_cons_zero, List.set_cons_succ]
                refine wpAnyH_ready (rs := [15]) (by kernel_rfl) (by simp) ?_
                refine AllReadyH.cons rfl (fun K hK => ?_) AllReadyH.nil
                clear hHeld
                go_simp
                go_wp2_with (go_at_call 14; refine Calls.mono (C10.out _ HE11.out) ?_; rintro e v12 ⟨rfl, hb⟩; have HE12 := Lib.hid (HE11.out.trans (hb.mono HE11.out.size)); clear hb s0q11 s1q11 s2q11 s3q11 t0q11 t1q11 t2q11 t3q11 x0q11 x1q11 x2q11 x3q11; have bx := HBks.out.below HE12.out HBks.out.lt; have s0q12 := bx.cell 0; have s1q12 := bx.cell 1; have s2q12 := bx.cell 2; have s3q12 := bx.cell 3; simp only [List.getElem?_toArray, List.getElem?_cons_zero, List.getElem?_cons_succ] at s0q12 s1q12 s2q12 s3q12; clear bx; have bx := HBkt.out.below HE12.out HBkt.out.lt; have t0q12 := bx.cell 0; have t1q12 := bx.cell 1; have t2q12 := bx.cell 2; have t3q12 := bx.cell 3; simp only [List.getElem?_toArray, List.getElem?_cons_zero, List.getElem?_cons_succ] at t0q12 t1q12 t2q12 t3q12; clear bx; have bx := HBkx.out.below HE12.out HBkx.out.lt; have x0q12 := bx.cell 0; have x1q12 := bx.cell 1; have x2q12 := bx.cell 2; have x3q12 := bx.cell 3; simp only [List.getElem?_toArray, List.getElem?_cons_zero, List.getElem?_cons_succ] at x0q12 x1q12 x2q12 x3q12; clear bx)
                refine hK.out _ _ ⟨s0q12, s1q12, s2q12, s3q12, t0q12, t1q12, t2q12, t3q12, x0q12, x1q12, x2q12, x3q12⟩ (fun hHeld => ?_)
                clear hK K
                refine takeY 16 (some 88) rfl rfl (by kernel_rfl) (by kernel_rfl) (by kernel_rfl) (fun _ _ _ h => h) (by rfl) (v := _) (by (intro _ hSw; (try dsimp only at hSw); go_simp; try with_reducible rfl)) hHeld ?_
                simp only [Act.put, List.setIfInBounds_toArray, List.set_cons_zero, List.set_cons_succ]
                refine takeY 17 (some 89) rfl rfl (by kernel_rfl) (by kernel_rfl) (by kernel_rfl) (fun _ _ _ h => h) (by rfl) (v := _) (by (intro _ hSw; (try dsimp only at hSw); go_simp; try with_reducible rfl)) hHeld ?_
                simp only [Act.put, List.setIfInBounds_toArray, List.set_cons_zero, List.set_cons_succ]
                refine wpAnyH_ready (rs := [18]) (by kernel_rfl) (by simp) ?_
                refine AllReadyH.cons rfl (fun K hK => ?_) AllReadyH.nil
                clear hHeld
                go_simp
                go_wp2_with (go_at_call 9; refine Calls.mono (HWk.out _) ?_; rintro e v13 ⟨rfl, hb⟩; have HE13 := Lib.hid (HE12.out.trans (hb.mono HE12.out.size)); clear hb s0q12 s1q12 s2q12 s3q12 t0q12 t1q12 t2q12 t3q12 x0q12 x1q12 x2q12 x3q12; have bx := HBks.out.below HE13.out HBks.out.lt; have s0q13 := bx.cell 0; have s1q13 := bx.cell 1; have s2q13 := bx.cell 2; have s3q13 := bx.cell 3; simp only [List.getElem?_toArray, List.getElem?_cons_zero, List.getElem?_cons_succ] at s0q13 s1q13 s2q13 s3q13; clear bx; have bx := HBkt.out.below HE13.out HBkt.out.lt; have t0q13 := bx.cell 0; have t1q13 := bx.cell 1; have t2q13 := bx.cell 2; have t3q13 := bx.cell 3; simp only [List.getElem?_toArray, List.getElem?_cons_zero, List.getElem?_cons_succ] at t0q13 t1q13 t2q13 t3q13; clear bx; have bx := HBkx.out.below HE13.out HBkx.out.lt; have x0q13 := bx.cell 0; have x1q13 := bx.cell 1; have x2q13 := bx.cell 2; have x3q13 := bx.cell 3; simp only [List.getElem?_toArray, List.getElem?_cons_zero, List.getElem?_cons_succ] at x0q13 x1q13 x2q13 x3q13; clear bx)
                refine hK.out _ _ ⟨s0q13, s1q13, s2q13, s3q13, t0q13, t1q13, t2q13, t3q13, x0q13, x1q13, x2q13, x3q13⟩ (fun hHeld => ?_)
                clear hK K
                refine takeY 19 (some 91) rfl rfl (by kernel_rfl) (by kernel_rfl) (by kernel_rfl) (fun _ _ _ h => h) (by rfl) (v := _) (by (intro _ hSw; (try dsimp only at hSw); go_simp; try with_reducible rfl)) hHeld ?_
                simp only [Act.put, List.setIfInBounds_toArray, List.set_cons_zero, List.set_cons_succ]
                refine takeY 20 (some 6) rfl rfl (by kernel_rfl) (by kernel_rfl) (by kernel_rfl) (fun _ _ _ h => h) (by rfl) (v := _) (by (intro _ hSw; (try dsimp only at hSw); go_simp; try with_reducible rfl)) hHeld ?_
                simp only [Act.put, List.setIfInBounds_toArray, List.set_cons_zero, List.set_cons_succ]
                refine wpAnyH_done (by kernel_rfl) ?_ _
                clear hHeld
                go_wp2_with fail
                go_ret
                exact ⟨rfl, HI.out.1.trans ((HB06.out.trans ((HR6.out.trans (HE13.out.mono HR6.out.size)).mono HB06.out.size)).mono HI.out.1.size)⟩
end Go.Proofs.Ytndhojnfjlkojaa
