/- SlotsOnce. -/
import Derived.Test.YtipjokbkgcepbaaP
import Derived.Test.YtipjokbkgcepbaaK
namespace Go.Proofs.Ytipjokbkgcepbaa
open Go.RowKit Slt

/-- Between the rounds: the page q, of all records up to n; the free slots. -/
structure OnI (R : List (List UInt8)) (wl wr : World) (i n : Nat) (qv fv : Value) : Prop where
  pg : ∃ q g c, qv = .slice (some ⟨g, 0, none⟩) q.length c ∧ Rw wr g q.length c q ∧ Ok q ∧ recs q = fillA R n ∧ ∀ j, fv.ownBlock = some j → j ≠ g ∧ wl.heap.size ≤ j
  far : Far R i n
  fr : IntsO wr fv (freeK R n)
  bel : Below wl.heap.size wl wr
theorem OnI.begin {R : List (List UInt8)} {wl wr : World} {g : Nat} (h : Rw wr g 1 1 [0]) (hb : Below wl.heap.size wl wr) : OnI R wl wr 0 0 (.slice (some ⟨g, 0, none⟩) 1 1) (.slice none 0 0) :=
  ⟨⟨[0], g, 1, rfl, h, by decide +kernel, (show recs [0] = [] by decide +kernel).trans (by simp [fillA]), fun j hj => by cases hj⟩, Far.zero R, IntsO.nil _, hb⟩

/-- Between the rounds of the last loop. -/
structure OnD (R : List (List UInt8)) (wl wr : World) (zs : List Nat) (qv : Value) : Prop where
  pg : ∃ q g c, qv = .slice (some ⟨g, 0, none⟩) q.length c ∧ Rw wr g q.length c q ∧ Ok q ∧ recs q = fillD R zs
  bel : Below wl.heap.size wl wr

theorem freeK_succ (R : List (List UInt8)) (n : Nat) (h : useB R n = false) : freeK R (n + 1) = freeK R n ++ [n] := by
  unfold freeK; rw [filter_succ, h]; rfl
theorem freeK_used (R : List (List UInt8)) (n : Nat) (h : useB R n = true) : freeK R (n + 1) = freeK R n := by
  unfold freeK; rw [filter_succ, h]; simp
theorem freeK_at {R : List (List UInt8)} {n j f : Nat} (h : (freeK R n)[j]? = some f) : f < n ∧ useB R f = false ∧ f ∉ (freeK R n).take j := by
  have hm := List.mem_of_getElem? h
  unfold freeK at hm
  rw [List.mem_filter, List.mem_range] at hm
  refine ⟨hm.1, by simpa using hm.2, fun hmem => ?_⟩
  obtain ⟨k, hk, e⟩ := List.mem_take_iff_getElem.1 hmem
  obtain ⟨hj, e2⟩ := List.getElem?_eq_some_iff.1 h
  have hpw : (freeK R n).Pairwise (· < ·) := List.pairwise_lt_range.filter _
  have := List.pairwise_iff_getElem.1 hpw k j (by omega) hj (by omega)
  omega
theorem useB_get {R : List (List UInt8)} {k : Nat} (hk : k < R.length) : ∃ r, R[k]? = some r ∧ useB R k = decide (0 < r.length) := by
  refine ⟨R[k], List.getElem?_eq_getElem hk, ?_⟩
  unfold useB
  rw [show R.getD k [] = R[k] by simp [List.getD, hk]]

set_option maxRecDepth 20000 in
set_option maxHeartbeats 8000000 in
theorem once_walk (len cap : Nat) (A : Option Addr) (p : List UInt8) (w : World) (h1024 : len ≤ 1024) (hok : Ok p) (hlen : p.length = len) (hA : Bytes w A p) (hcap : len ≤ cap) (hcm : cap ≤ maxLen) :
    Calls Try.prog 7 #[.slice A len cap] w fun e W' => e = .returned (.bool true) ∧ Below w.heap.size w W' := by
  have HA := Lib.hid hA
  have HL := Lib.hid hlen
  have HC := Lib.hid (And.intro hcap hcm)
  have HOK := Lib.hid hok
  have HS := Lib.hid (slots_any A len cap p w hlen hA hcap hcm)
  have HRT : Hid (∀ W : World, Below w.heap.size w W → Calls Try.prog 13 #[.slice A len cap] W fun e w' => e = .returned (.bool true) ∧ W = w') := Lib.hid (fun W hW => by
    have := right_any A len cap p W hlen (hA.below hW) hcap hcm
    rwa [show okB p = true from decide_eq_true hok] at this)
  have d1 : decide ((1024 : Int) < (len : Int)) = false := by simp; omega
  obtain ⟨R, hR⟩ : ∃ R, recs p = R := ⟨_, rfl⟩
  have hfull := recs_full hok
  have hRl := recs_length hok
  have hc256 := cnt_lt p
  rw [hR] at hfull hRl HS
  have HFULL := Lib.hid hfull
  have HRE := Lib.hid hR
  have hRL : R.length < 256 := by omega
  have HUL : Hid ((usedK R).length ≤ R.length) := Lib.hid (by unfold usedK; have := List.length_filter_le (fun k => decide (0 < (R.getD k []).length)) (List.range R.length); rw [List.length_range] at this; exact this)
  clear hok hlen hA hcap hcm hR hfull hRl hc256
  go_enter Try.func7, Try.ntmps7
  go_wp2_with fail
  refine HS.out.mono ?_
  rintro e wl ⟨sv, rfl, hI, hlo, hbl⟩
  obtain ⟨As, cs, hsv, hcs, hcsm⟩ := hI.shape
  obtain ⟨U, hU⟩ : ∃ U, (usedK R).length = U := ⟨_, rfl⟩
  rw [hU] at hsv
  have hul := HUL.out
  rw [hU] at hul
  have HU := Lib.hid hU
  have HIN := Lib.hid hI
  have HBL := Lib.hid hbl
  subst hsv
  clear hI hlo hbl hU HS hcs hcsm HUL
  go_wp2_with fail
  refine (HRT.out _ HBL.out).mono ?_
  rintro e w' ⟨rfl, rfl⟩
  have HE := Lib.hid (empty_any wl)
  clear HRT
  go_wp2_with fail
  refine HE.out.mono ?_
  rintro e w2 ⟨rfl, hr2, hb2⟩
  have HON : Hid (OnI R wl w2 0 0 (.slice (some ⟨wl.heap.size, 0, none⟩) 1 1) (.slice none 0 0)) := Lib.hid (OnI.begin hr2 hb2)
  clear hr2 hb2 HE
  go_wp2_with fail
  go_loopw [4, 5, 6, 7, 8, 9, 10, 11, 12, 13, 14, 15] (fun qv nv fv iv a b c d e f g h wr => ∃ i n : Nat, i ≤ U ∧ iv = .int .i64 (i : Int) ∧ nv = .int .i64 (n : Int) ∧ Hid (OnI R wl wr i n qv fv)) (fun _ _ _ iv _ _ _ _ _ _ _ _ _ => U - (intOf iv).toNat)
  case atStart => exact ⟨0, 0, Nat.zero_le _, rfl, rfl, HON⟩
  case round =>
    obtain ⟨i, n, hi, rfl, rfl, hON⟩ := hrel
    clear HON
    by_cases hlt : i < U
    · have hd : decide ((i : Int) < (U : Int)) = true := by simpa using hlt
      obtain ⟨x, hx⟩ : ∃ x, (usedK R)[i]? = some x := ⟨_, List.getElem?_eq_getElem (by rw [HU.out]; exact hlt)⟩
      obtain ⟨gl, cl, hsl, hgl, hcl⟩ := HIN.out.get i x hx
      rw [HU.out] at hsl
      injection hsl with e1 e2 e3
      subst e1
      clear e2 e3
      obtain ⟨_, hxR, hxu, _⟩ := hON.out.far.next hx
      have HX := Lib.hid hx
      have hx256 : x < 256 := by omega
      have hcw : ∀ W : World, Below wl.heap.size wl W → W.cell? ⟨gl, i, none⟩ = some (.int .i64 (x : Int)) := fun W hW => (hW.cell (p := ⟨gl, i, none⟩) hgl).trans hcl
      have HCW := Lib.hid hcw
      have c0 := hcw wr hON.out.bel
      have HXR := Lib.hid (And.intro hxR hxu)
      clear hx hcl hcw hxR hxu hgl
      go_wp2_with fail
      obtain ⟨wo, hwo⟩ : ∃ wo, wo = wr := ⟨wr, rfl⟩
      clear c0
      go_loopw [4, 5, 6, 8, 9, 10] (fun qv nv fv a b c wr => ∃ n : Nat, nv = .int .i64 (n : Int) ∧ Hid (OnI R wl wr i n qv fv)) (fun _ nv _ _ _ _ _ => x - (intOf nv).toNat)
      case atStart => exact ⟨n, rfl, hON⟩
      case round =>
        clear hwo
        obtain ⟨n, rfl, hON2⟩ := hrel
        clear hON
        have hON := hON2
        clear hON2
        have c0 := HCW.out wr hON.out.bel
        obtain ⟨hnx, _, _, hbet⟩ := hON.out.far.next HX.out
        obtain ⟨q, g, c, rfl, hrw, hqok, hqr, hfo⟩ := hON.out.pg
        have HQOK := Lib.hid (And.intro hqok (And.intro hqr hfo))
        have HRW := Lib.hid hrw
        have hfl := fillA_length R n hON.out.far.le
        have HFL := Lib.hid hfl
        obtain ⟨ql, hql⟩ : ∃ ql, q.length = ql := ⟨_, rfl⟩
        have HQL := Lib.hid hql
        have hn256 : n < 256 := by omega
        rw [hql] at hrw ⊢
        have HBET := Lib.hid hbet
        clear hqok hqr hfo hfl hbet
        by_cases hlx : n < x
        · have hd2 : decide ((n : Int) < (x : Int)) = true := by simpa using hlx
          have hb3 : Below wr.heap.size wr (wr.alloc (.cells #[.int .u8 1] 5)) := (Below.refl _ _).alloc (Nat.le_refl _) _
          have hput := put_any (some ⟨g, 0, none⟩) (some ⟨wr.heap.size, 0, none⟩) ql c 1 1 q [1] (wr.alloc (.cells #[.int .u8 1] 5)) hql (hrw.bytes.below hb3) hrw.le hrw.max rfl (Bytes.row (bs := [1]) (Blk.new wr _ _)) (Nat.le_refl _) (by decide)
          have HPUT := Lib.hid hput
          clear hput hrw hql hb3
          go_wp2_with fail
          refine HPUT.out.mono ?_
          rintro e w3 (⟨_, rfl, hb3⟩ | ⟨g3, c3, hm, rfl, hr3, hg3, hb3⟩)
          · have HB3 : Hid (Below w.heap.size w w3) := Lib.hid (by
              have h2 := HBL.out.trans (hON.out.bel.mono HBL.out.size)
              have h3 : Below wr.heap.size wr w3 := ((Below.refl _ _).alloc (Nat.le_refl _) _).trans (hb3.mono (by simp))
              exact h2.trans (h3.mono h2.size))
            have HW := Lib.hid (works_any w3)
            clear hb3 HPUT
            go_wp2_with fail
            refine HW.out.mono ?_
            rintro e w4 ⟨rfl, hb4⟩
            have HB4 := Lib.hid (HB3.out.trans (hb4.mono HB3.out.size))
            clear hb4
            go_wp2_with fail
            go_ret
            exact ⟨rfl, HB4.out⟩
          · obtain ⟨hlk, hok3, hrc3⟩ := put_more HQOK.out.2.1 (fillA_ne R n) hm
            rw [HFL.out] at hlk
            rw [hlk]
            have hun := HBET.out n (Nat.le_refl _) hlx
            obtain ⟨r, hr, hur⟩ := useB_get (R := R) (k := n) (by have := HXR.out.1; omega)
            have hr0 : r.length = 0 := by rw [hun] at hur; have := of_decide_eq_false hur.symm; omega
            have hfs := fillA_succ hr
            rw [if_pos hr0] at hfs
            rw [← hfs] at hrc3
            have hfk := freeK_succ R n hun
            have hfar := hON.out.far.skip (by have := HXR.out.1; omega) hun
            have h3 : Below wr.heap.size wr w3 := ((Below.refl _ _).alloc (Nat.le_refl _) _).trans (hb3.mono (by simp))
            have hb4 : Below w3.heap.size w3 (w3.alloc (.cells #[.int .i64 (n : Int)] 3)) := (Below.refl _ _).alloc (Nat.le_refl _) _
            have hfr3 : IntsO (w3.alloc (.cells #[.int .i64 (n : Int)] 3)) u6 (freeK R n) := hON.out.fr.same (fun k hk => ((h3.mono (Nat.le_refl _)).trans (hb4.mono h3.size)).block k (hON.out.fr.lt k hk))
            obtain ⟨v', w5, hrun, hfr5, hg5, ho5⟩ := hfr3.push n w3.heap.size ((Blk.new w3 _ _).cell 0) (by
              have : (freeK R n).length ≤ n := by unfold freeK; have := List.length_filter_le (fun k => !useB R k) (List.range n); rwa [List.length_range] at this
              omega)
            obtain ⟨Af, cf, hfv, _, _⟩ := hON.out.fr.shape
            have hgo : g3 < (w3.alloc (.cells #[.int .i64 (n : Int)] 3)).heap.size := by rw [World.size_alloc]; have := hr3.lt; omega
            have hne3 : ∀ j, u6.ownBlock = some j → j ≠ g3 := fun j hj => by have := hON.out.fr.lt j hj; have h4 := hg3; rw [World.size_alloc] at h4; omega
            have hr5 := (hr3.below hb4).frame (w' := w5) hg5.size (hg5.block g3 hgo (fun e => hne3 g3 e.symm rfl))
            have hwlr := hON.out.bel.size
            have hON5 : OnI R wl w5 i (n + 1) (.slice (some ⟨g3, 0, none⟩) (pageOf (putL q [1])).length c3) v' := by
              refine ⟨⟨_, g3, c3, rfl, hr5, hok3, hrc3, fun j hj => ?_⟩, hfar, by rw [hfk]; exact hfr5, ?_⟩
              · rcases ho5 with ho | ho
                · rw [ho] at hj; exact ⟨hne3 j hj, (HQOK.out.2.2 j hj).2⟩
                · rw [ho] at hj; injection hj with hj
                  rw [World.size_alloc] at hj hgo
                  have := hr3.lt
                  have := h3.size
                  exact ⟨by omega, by omega⟩
              · have hbw : Below wl.heap.size wl (w3.alloc (.cells #[.int .i64 (n : Int)] 3)) := hON.out.bel.trans ((h3.trans (hb4.mono h3.size)).mono hwlr)
                exact hbw.grown hg5 hbw.size (fun j hj => (HQOK.out.2.2 j hj).2)
            obtain ⟨A5, c5, hv5, _, _⟩ := hfr5.shape
            subst hfv
            subst hv5
            obtain ⟨nf, hnf⟩ : ∃ nf, (freeK R n).length = nf := ⟨_, rfl⟩
            obtain ⟨nf2, hnf2⟩ : ∃ nf, (freeK R n ++ [n]).length = nf := ⟨_, rfl⟩
            rw [hnf, hnf2] at hrun
            rw [hnf2] at hON5
            rw [hnf]
            have HON5 := Lib.hid hON5
            have HRUN := Lib.hid hrun
            have hnn : ((n : Int) != (n : Int)) = false := by simp
            clear hrun hON5 hr5 hfr5 hg5 ho5 hfr3 hb4 h3 hfar hfk hfs hrc3 hok3 hlk hun hr hur hr0 hb3 hr3 hg3 hm hON HPUT hnf hnf2 hne3 hgo
            go_wp2_with (at_builtin; refine wpList_app rfl _ _ 29 rfl _ _ _ _ rfl rfl HRUN.out ?_; clear HRUN)
            go_roundw
            case rel => exact ⟨n + 1, by go_num, HON5⟩
            case measure => simp [intOf]; omega
        · obtain rfl : n = x := by omega
          have hd2 : decide ((n : Int) < (n : Int)) = false := by simp
          have hgetr : ∃ r, R[n]? = some r ∧ 0 < r.length ∧ gotR p (n : Int) = some r := by
            obtain ⟨r, hr, hur⟩ := useB_get (R := R) (k := n) HXR.out.1
            rw [HXR.out.2] at hur
            have h0 := of_decide_eq_true hur.symm
            exact ⟨r, hr, h0, gotR_some (by rw [HRE.out]; exact hr) rfl (by omega)⟩
          obtain ⟨r, hr, hr0, hgot⟩ := hgetr
          have hbw := HBL.out.trans (hON.out.bel.mono HBL.out.size)
          have hget := get_got (slot := (n : Int)) (w := wr) hgot HL.out (HA.out.below hbw) HC.out.1 HC.out.2
          have HGET := Lib.hid hget
          have HR := Lib.hid hr
          have HR0 := Lib.hid hr0
          have HBW := Lib.hid hbw
          clear hget hgot hr hr0 hbw hql
          go_wp2_with fail
          refine HGET.out.mono ?_
          rintro e w3 ⟨gb, cb, rfl, hrb, hgb, hb3⟩
          have hput := put_any (some ⟨g, 0, none⟩) (some ⟨gb, 0, none⟩) ql c r.length cb q r w3 HQL.out (hrw.bytes.below hb3) hrw.le hrw.max rfl hrb.bytes hrb.le hrb.max
          have HPUT := Lib.hid hput
          have HB3 := Lib.hid hb3
          have c3 := HCW.out w3 (hON.out.bel.trans (hb3.mono hON.out.bel.size))
          clear hput hrb hgb hb3 hrw HGET
          obtain ⟨rl, hrl⟩ : ∃ rl, r.length = rl := ⟨_, rfl⟩
          rw [hrl] at HPUT ⊢
          clear hrl
          go_wp2_with fail
          refine HPUT.out.mono ?_
          rintro e w4 (⟨_, rfl, hb4⟩ | ⟨g4, c4, hm, rfl, hr4, hg4, hb4⟩)
          · have HB4 : Hid (Below w.heap.size w w4) := Lib.hid (by
              have h3 := HBW.out.trans (HB3.out.mono HBW.out.size)
              exact h3.trans (hb4.mono h3.size))
            have HW := Lib.hid (works_any w4)
            clear hb4 HPUT c0 c3
            go_wp2_with fail
            refine HW.out.mono ?_
            rintro e w5 ⟨rfl, hb5⟩
            have HB5 := Lib.hid (HB4.out.trans (hb5.mono HB4.out.size))
            clear hb5
            go_wp2_with fail
            go_ret
            exact ⟨rfl, HB5.out⟩
          · obtain ⟨hlk, hok4, hrc4⟩ := put_more HQOK.out.2.1 (fillA_ne R n) hm
            rw [HFL.out] at hlk
            rw [hlk]
            have hfs := fillA_succ HR.out
            rw [if_neg (by have := HR0.out; omega)] at hfs
            rw [← hfs] at hrc4
            have hfk := freeK_used R n HXR.out.2
            have hfar := hON.out.far.take HX.out
            have hb34 := HB3.out.trans (hb4.mono HB3.out.size)
            have hON5 : OnI R wl w4 (i + 1) (n + 1) (.slice (some ⟨g4, 0, none⟩) (pageOf (putL q r)).length c4) u6 :=
              ⟨⟨_, g4, c4, rfl, hr4, hok4, hrc4, fun j hj => ⟨by have := hON.out.fr.lt j hj; have := HB3.out.size; omega, (HQOK.out.2.2 j hj).2⟩⟩, hfar,
                by rw [hfk]; exact hON.out.fr.same (fun k hk => hb34.block k (hON.out.fr.lt k hk)), hON.out.bel.trans (hb34.mono hON.out.bel.size)⟩
            have c4' := HCW.out w4 hON5.bel
            have HON5 := Lib.hid hON5
            have hnn : ((n : Int) != (n : Int)) = false := by simp
            clear hON5 hb34 hfar hfk hfs hrc4 hok4 hlk hb4 hr4 hg4 hm hON HPUT c0 c3
            go_wp2_with fail
            go_roundw
            case rel => exact ⟨i + 1, n + 1, by omega, by go_num, by go_num, HON5⟩
            case measure => simp [intOf]; omega
    · obtain rfl : U = i := by omega
      have hd : decide ((U : Int) < (U : Int)) = false := by simp
      have hfd := hON.out.far
      rw [← HU.out] at hfd
      have hnR := Far.done HFULL.out hfd
      subst hnR
      obtain ⟨q, g, c, rfl, hrw, hqok, hqr, _⟩ := hON.out.pg
      rw [← fillD_nil] at hqr
      have hfr := hON.out.fr
      obtain ⟨Z, hZ⟩ : ∃ Z, (freeK R R.length).length = Z := ⟨_, rfl⟩
      obtain ⟨Af, cf, hfv, _, _⟩ := hfr.shape
      rw [hZ] at hfv
      have HZ := Lib.hid hZ
      have hZ256 : Z < 256 := by
        rw [← hZ]; unfold freeK; have := List.length_filter_le (fun k => !useB R k) (List.range R.length); rw [List.length_range] at this; omega
      have hwl := hON.out.bel.size
      have HBW := Lib.hid hON.out.bel
      have HFR := Lib.hid hfr
      have HOD : Hid (OnD R wr wr ((freeK R R.length).take 0) (.slice (some ⟨g, 0, none⟩) q.length c)) := Lib.hid ⟨⟨q, g, c, rfl, hrw, hqok, hqr⟩, Below.refl _ _⟩
      subst hfv
      clear hON hfd hrw hqok hqr hfr hZ hwl
      obtain ⟨wf, rfl⟩ : ∃ wf, wf = wr := ⟨wr, rfl⟩
      go_wp2_with fail
      go_loopw [4, 16, 17, 18] (fun qv jv a b wr => ∃ j : Nat, j ≤ Z ∧ jv = .int .i64 (j : Int) ∧ Hid (OnD R wf wr ((freeK R R.length).take j) qv)) (fun _ jv _ _ _ => Z - (intOf jv).toNat)
      case atStart => exact ⟨0, Nat.zero_le _, rfl, HOD⟩
      case round =>
        obtain ⟨j, hj, rfl, hOD⟩ := hrel
        clear HOD
        obtain ⟨q2, g2, c2, rfl, hrw, hqok, hqr⟩ := hOD.out.pg
        have HB2 := Lib.hid hOD.out.bel
        obtain ⟨ql, hql⟩ : ∃ ql, q2.length = ql := ⟨_, rfl⟩
        rw [hql] at hrw ⊢
        by_cases hlt : j < Z
        · have hd : decide ((j : Int) < (Z : Int)) = true := by simpa using hlt
          obtain ⟨f, hf⟩ : ∃ f, (freeK R R.length)[j]? = some f := ⟨_, List.getElem?_eq_getElem (by rw [HZ.out]; exact hlt)⟩
          obtain ⟨gf, cf', hsf, hgf, hcf⟩ := HFR.out.get j f hf
          rw [HZ.out] at hsf
          injection hsf with e1 e2 e3
          subst e1
          clear e2 e3
          obtain ⟨hf1, hf2, hf3⟩ := freeK_at hf
          obtain ⟨hgot, hok3, hrc3⟩ := drop_more hqok HFULL.out hqr hf1 hf2 hf3
          have hsn : (freeK R R.length).take j ++ [f] = (freeK R R.length).take (j + 1) := by
            obtain ⟨h1, h2⟩ := List.getElem?_eq_some_iff.1 hf
            rw [List.take_succ_eq_append_getElem h1, h2]
          rw [hsn] at hrc3
          have c0 := (HB2.out.cell (p := ⟨gf, j, none⟩) hgf).trans hcf
          have hdr := drop_got (slot := (f : Int)) (w := wr) hgot rfl (by omega) hql hrw.bytes hrw.le hrw.max
          have HDR := Lib.hid hdr
          have HRC := Lib.hid (And.intro hok3 hrc3)
          clear hOD hrw hqok hqr hql hf hgf hcf hf1 hf2 hf3 hgot hok3 hrc3 hsn hdr
          go_wp2_with fail
          refine HDR.out.mono ?_
          rintro e w3 ⟨g3, c3, rfl, hr3, _, hb3⟩
          have HOD : Hid (OnD R wf w3 ((freeK R R.length).take (j + 1)) (.slice (some ⟨g3, 0, none⟩) (pageOf (dropL q2 f)).length c3)) := Lib.hid ⟨⟨_, g3, c3, rfl, hr3, HRC.out.1, HRC.out.2⟩, HB2.out.trans (hb3.mono HB2.out.size)⟩
          clear hr3 hb3 HDR HRC c0
          go_wp2_with fail
          go_roundw
          case rel => exact ⟨j + 1, by omega, by go_num, HOD⟩
          case measure => simp [intOf]; omega
        · obtain rfl : Z = j := by omega
          have hd : decide ((Z : Int) < (Z : Int)) = false := by simp
          rw [List.take_of_length_le (by rw [HZ.out]; exact Nat.le_refl _), fillD_all] at hqr
          have hqp : q2 = p := by rw [page_of hqok hqr, ← HRE.out, HOK.out.page]
          subst hqp
          have hbw : Below w.heap.size w wr := by
            have h1 := HBL.out.trans (HBW.out.mono HBL.out.size)
            exact h1.trans (HB2.out.mono h1.size)
          have hlq : ql = len := hql.symm.trans HL.out
          subst hlq
          have hcm := HC.out.2
          have hcm2 := hrw.max
          unfold maxLen at hcm hcm2
          have heq := eq_any A (some ⟨g2, 0, none⟩) ql cap ql c2 q2 q2 wr HL.out HL.out (HA.out.below hbw) hrw.bytes ⟨HC.out.1, hcm, by omega⟩ ⟨hrw.le, hcm2, by omega⟩
          rw [decide_eq_true (rfl : q2 = q2)] at heq
          have HEQ := Lib.hid heq
          have HBW2 := Lib.hid hbw
          clear hOD hrw hqok hqr hql heq hbw hcm hcm2
          go_wp2_with fail
          refine HEQ.out.mono ?_
          rintro e w3 ⟨rfl, hb3⟩
          have HB3 := Lib.hid (HBW2.out.trans (hb3.mono HBW2.out.size))
          clear hb3
          have HW := Lib.hid (works_any w3)
          go_wp2_with fail
          refine HW.out.mono ?_
          rintro e w4 ⟨rfl, hb4⟩
          have HB4 := Lib.hid (HB3.out.trans (hb4.mono HB3.out.size))
          clear hb4
          go_wp2_with fail
          go_ret
          exact ⟨rfl, HB4.out⟩

set_option maxRecDepth 20000 in
set_option maxHeartbeats 1000000 in
theorem once_any (len cap : Nat) (A : Option Addr) (p : List UInt8) (w : World) (hlen : p.length = len) (hA : Bytes w A p) (hcap : len ≤ cap) (hcm : cap ≤ maxLen) :
    Calls Try.prog 7 #[.slice A len cap] w fun e W' => e = .returned (.bool true) ∧ Below w.heap.size w W' := by
  by_cases h1 : len ≤ 1024
  · by_cases hok : Ok p
    · exact once_walk len cap A p w h1 hok hlen hA hcap hcm
    · have d1 : decide ((1024 : Int) < (len : Int)) = false := by simp; omega
      have hs := slots_any A len cap p w hlen hA hcap hcm
      have hu : usedK (recs p) = [] := by rw [recs_no hok]; rfl
      rw [hu] at hs
      have hrt := fun (W : World) (hW : Below w.heap.size w W) => right_any A len cap p W hlen (hA.below hW) hcap hcm
      rw [show okB p = false from decide_eq_false hok] at hrt
      have hrm := fun (W : World) (hW : Below w.heap.size w W) => room_any A len cap p W hlen (hA.below hW) hcap hcm
      rw [show roomR p = -1 from if_neg fun h => hok h.1] at hrm
      have HS := Lib.hid hs
      have HRT := Lib.hid hrt
      have HRM := Lib.hid hrm
      clear hA hok hs hrt hrm hu hlen
      go_enter Try.func7, Try.ntmps7
      go_wp2_with fail
      refine HS.out.mono ?_
      rintro e wl ⟨sv, rfl, hI, hlo, hbl⟩
      obtain ⟨As, cs, hsv, _, _⟩ := hI.shape
      subst hsv
      have HBL := Lib.hid hbl
      clear hI hlo hbl HS
      go_wp2_with fail
      refine (HRT.out _ HBL.out).mono ?_
      rintro e w' ⟨rfl, rfl⟩
      go_wp2_with fail
      refine (HRM.out _ HBL.out).mono ?_
      rintro e w3 ⟨rfl, hb3⟩
      have HB3 := Lib.hid (HBL.out.trans (hb3.mono HBL.out.size))
      clear hb3
      have HW := Lib.hid (works_any w3)
      go_wp2_with fail
      refine HW.out.mono ?_
      rintro e w4 ⟨rfl, hb4⟩
      have HB4 := Lib.hid (HB3.out.trans (hb4.mono HB3.out.size))
      clear hb4
      go_wp2_with fail
      go_ret
      exact ⟨rfl, HB4.out⟩
  · have d1 : decide ((1024 : Int) < (len : Int)) = true := by simp; omega
    have HW := Lib.hid (works_any w)
    clear hA hlen
    go_enter Try.func7, Try.ntmps7
    go_wp2_with fail
    refine HW.out.mono ?_
    rintro e w2 ⟨rfl, hb⟩
    have HB := Lib.hid hb
    clear hb
    go_wp2_with fail
    go_ret
    exact ⟨rfl, HB.out⟩
end Go.Proofs.Ytipjokbkgcepbaa
