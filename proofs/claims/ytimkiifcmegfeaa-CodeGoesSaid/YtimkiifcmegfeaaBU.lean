/- Contracts, part BU. -/
import Derived.Test.YtimkiifcmegfeaaBO
import Derived.Test.YtimkiifcmegfeaaBA
import Derived.Deep.RegionWith
import Derived.Deep.RegionHeld3
/- code: the reference's text. -/
namespace Go.Proofs.Ytimkiifcmegfeaa
open Go.RowKit
set_option linter.unusedVariables false
set_option linter.unusedSimpArgs false
attribute [local go_sem] Oper.semAt_some
/-- A new row behind a call. -/
def RN (bs : List UInt8) (w : World) (e : Ending) (w' : World) : Prop := ∃ v, e = .returned v ∧ w'.ownsRow w.heap.size 5 1 v bs.length (bs.map bv) ∧ Below w.heap.size w w'
theorem rput (x : Int) (n X : Nat) (hn : sizeB n = true) (hX : (x % 18446744073709551616).toNat = X) {B : Nat} {v : Value} {bs : List UInt8} {w : World} (h : w.ownsRow B 5 1 v bs.length (bs.map bv)) (hl : bs.length ≤ 1048576) :
    Calls Try.prog 36 #[v, .int .u64 (X : Int), .int .i64 (n : Int)] w fun e w' => RN (bs ++ nb x n) w e w' := by
  obtain ⟨A, c, rfl⟩ := own_shape h
  refine (refput_any A bs.length c X (n : Int) bs w rfl hl (Bytes.of_own h) (by omega)).mono ?_
  rintro e w' ⟨v, m, rfl, h1, h2⟩
  have e1 : putBytes bs X (n : Int) = bs ++ nb x n := by unfold putBytes nb; rw [if_pos hn, hX]; rfl
  rw [e1] at h1
  have e2 : m = (bs ++ nb x n).length := by have := h1.1; rw [List.length_map] at this; omega
  rw [e2] at h1
  exact ⟨v, rfl, h1, h2⟩
theorem u64_of (x : Int) : ∃ X : Nat, (x % 18446744073709551616).toNat = X ∧ IntKind.u64.wrap x = (X : Int) := ⟨_, rfl, by simp [IntKind.wrap, IntKind.bits, IntKind.signed]; omega⟩
set_option maxRecDepth 20000 in
theorem rtext_any (s : List UInt8) (hs : s.length ≤ 1000000) {B : Nat} {v : Value} {bs : List UInt8} {w : World} (h : w.ownsRow B 5 1 v bs.length (bs.map bv)) (hl : bs.length ≤ 1048576) :
    Calls Try.prog 37 #[v, .string (str s)] w fun e w' => RN (bs ++ tb s) w e w' := by
  have hsz : (str s).size = s.length := by rw [str_size]
  obtain ⟨X, hX, hw⟩ := u64_of (s.length : Int)
  have HC := Lib.hid (rput (s.length : Int) 4 X (by decide) hX h hl)
  obtain ⟨A, c, rfl⟩ := own_shape h
  obtain ⟨sl, hsl⟩ : ∃ z, s.length = z := ⟨_, rfl⟩
  rw [hsl] at HC hsz hw
  have hs1 : IntKind.i64.wrap (sl : Int) = (sl : Int) := IntWalk.i64_in _ ⟨by omega, by omega⟩
  have HSL := Lib.hid (And.intro hsl (And.intro hs hl))
  clear h hX hsl hl
  go_enter Try.func37, Try.ntmps37
  go_wp2_with fail
  refine HC.out.mono ?_
  rintro e w2 ⟨v2, rfl, h2, hb2⟩
  obtain ⟨v3, w3, hrun, hown, hgr, hob⟩ := app_str w.heap.size w2 hb2.size v2 _ _ h2 (str s) (by rw [str_size, List.length_append]; have := HSL.out; unfold nb; rw [lePut_length]; omega)
  rw [strCells_str, ← List.map_append, str_size, ← List.length_append] at hown
  have HG : Hid (w3.ownsRow w.heap.size 5 1 v3 (bs ++ tb s).length ((bs ++ tb s).map bv) ∧ Below w.heap.size w w3) := Lib.hid ⟨by
    unfold tb
    rw [HSL.out.1, ← List.append_assoc]
    exact hown, hb2.trans ((Off.of_grown hgr).below hb2.size fun k hk => (h2.lt k hk).1)⟩
  have HR := Lib.hid hrun
  clear hrun hown hgr hob h2 hb2 HC
  go_wp2_with (at_builtin; refine wpList_app2 rfl _ _ 26 9 rfl _ _ _ _ rfl rfl HR.out ?_)
  go_ret
  exact ⟨_, rfl, HG.out⟩
end Go.Proofs.Ytimkiifcmegfeaa
/- code: the reference's Write (written by cdrwrite.py). -/
namespace Go.Proofs.Ytimkiifcmegfeaa
open Go.RowKit
set_option linter.unusedVariables false
set_option linter.unusedSimpArgs false
attribute [local go_sem] Oper.semAt_some
/-- The reference's Write under way. -/
structure RW (w : World) (cs : Array Value) (q B : Nat) (v : Value) (bs : List UInt8) (wx : World) : Prop where
  own : wx.ownsRow B 5 1 v bs.length (bs.map bv)
  c : Blk wx q 25 cs
  b : Below w.heap.size w wx
  lt : q < B ∧ w.heap.size ≤ q ∧ B ≤ wx.heap.size
section
variable {w : World} {cs : Array Value} {q B : Nat} {v : Value} {bs : List UInt8} {wx wy : World}
theorem RW.bel (h : RW w cs q B v bs wx) (hb : Below wx.heap.size wx wy) : RW w cs q B v bs wy := ⟨own_below h.own hb, h.c.below hb h.c.lt, h.b.trans (hb.mono h.b.size), h.lt.1, h.lt.2.1, Nat.le_trans h.lt.2.2 hb.size⟩
def RWN (w : World) (cs : Array Value) (q B : Nat) (bs : List UInt8) (wx : World) (e : Ending) (wy : World) : Prop := ∃ v', e = .returned v' ∧ RW w cs q B v' bs wy ∧ Below wx.heap.size wx wy ∧ ∀ k, k < wx.heap.size → v'.ownBlock ≠ some k
theorem RW.new {bs' : List UInt8} {e : Ending} (h : RW w cs q B v bs wx) (hn : RN bs' wx e wy) : RWN w cs q B bs' wx e wy := by
  obtain ⟨v', rfl, h1, h2⟩ := hn
  exact ⟨v', rfl, ⟨own_base h1 h.lt.2.2, h.c.below h2 h.c.lt, h.b.trans (h2.mono h.b.size), h.lt.1, h.lt.2.1, Nat.le_trans h.lt.2.2 h2.size⟩, h2, fun k hk e => by have := (h1.lt k e).1; omega⟩
theorem RW.num (h : RW w cs q B v bs wx) (x : Int) (n X : Nat) (hn : sizeB n = true) (hX : (x % 18446744073709551616).toNat = X) (hl : bs.length ≤ 1048576) :
    Calls Try.prog 36 #[v, .int .u64 (X : Int), .int .i64 (n : Int)] wx fun e w' => RWN w cs q B (bs ++ nb x n) wx e w' := (rput x n X hn hX h.own hl).mono fun e w' k => h.new k
theorem RW.text (h : RW w cs q B v bs wx) (s : List UInt8) (hs : s.length ≤ 1000000) (hl : bs.length ≤ 1048576) :
    Calls Try.prog 37 #[v, .string (str s)] wx fun e w' => RWN w cs q B (bs ++ tb s) wx e w' := (rtext_any s hs h.own hl).mono fun e w' k => h.new k
theorem wlen2 {r cb : List UInt8} (h : bs ++ r = cb) (hc : cb.length ≤ 1000000) : bs.length ≤ 1048576 := by
  have := congrArg List.length h
  rw [List.length_append] at this
  omega
theorem nb1 (k : Nat) (hk : k < 256) : nb (k : Int) 1 = [UInt8.ofNat k] ∧ ((UInt8.ofNat k).toNat : Int) = (k : Int) := by
  refine ⟨?_, by rw [UInt8.toNat_ofNat']; omega⟩
  unfold nb
  rw [show ((k : Int) % 18446744073709551616).toNat = k by omega]
  simp [lePut]
end
set_option maxRecDepth 20000 in
set_option maxHeartbeats 8000000 in
theorem rwrite_any (cl : Cl) (w : World) (hC : cl.At (fun b => b < w.heap.size) w) (hL : (cbytes cl.cd).length ≤ 1000000) :
    Calls Try.prog 17 #[.agg #[.slice cl.fA cl.fs.length cl.fc, .slice cl.rA cl.rs.length cl.rc]] w fun e w' => RN (cbytes cl.cd) w e w' := by
  obtain ⟨cb, hcb⟩ : ∃ z, cbytes cl.cd = z := ⟨_, rfl⟩
  rw [hcb] at hL ⊢
  obtain ⟨m, hm⟩ : ∃ z, cl.fs.length = z := ⟨_, rfl⟩
  obtain ⟨rk, hrk⟩ : ∃ z, cl.rs.length = z := ⟨_, rfl⟩
  rw [hm, hrk]
  obtain ⟨fA, hfA⟩ : ∃ z, cl.fA = z := ⟨_, rfl⟩
  obtain ⟨rA, hrA⟩ : ∃ z, cl.rA = z := ⟨_, rfl⟩
  rw [hfA, hrA]
  have HFA := Lib.hid (And.intro hfA hrA)
  have HFS : Hid (∀ V, Below w.heap.size w V → FsAt (fun b => b < w.heap.size) V cl.fA cl.fs ∧ RsAt (fun b => b < w.heap.size) V cl.rA cl.rs) := Lib.hid fun V hV => ⟨hC.fs.bel hV, hC.rs.bel hV⟩
  have HI := Lib.hid (And.intro hC (And.intro hL (And.intro hcb (And.intro hm hrk))))
  have hcb2 : nb (m : Int) 4 ++ (fbs (cl.fs.map Fe.is) ++ (nb (rk : Int) 4 ++ rbs cl.rs)) = cb := by
    rw [← hcb]; unfold cbytes Cl.cd; simp only [List.length_map, hm, hrk]
  have hmx : m ≤ maxLen := by have h1 := hC.fl; omega
  have hrx : rk ≤ maxLen := by have h1 := hC.rl; omega
  unfold maxLen at hmx hrx
  have hL8 : cb.length ≤ 1000000 := hL
  clear hC hL hcb hm hrk hfA hrA
  obtain ⟨w4, hw4⟩ : ∃ V, w.alloc (.cells #[.slice fA m cl.fc, .slice rA rk cl.rc] 25) = V := ⟨_, rfl⟩
  have hJ : RW w #[.slice fA m cl.fc, .slice rA rk cl.rc] w.heap.size (w.heap.size + 1) (.slice none 0 0) [] w4 := by
    have hb : Below w.heap.size w w4 := by rw [← hw4]; exact (Below.refl _ _).alloc (Nat.le_refl _) _
    have hs : w4.heap.size = w.heap.size + 1 := by rw [← hw4]; simp
    have hc : Blk w4 w.heap.size 25 #[.slice fA m cl.fc, .slice rA rk cl.rc] := by rw [← hw4]; exact Blk.new _ _ _
    exact ⟨World.ownsRow_nil _ _ _ _, hc, hb, by omega⟩
  have HJI := Lib.hid (And.intro hJ hw4)
  obtain ⟨Xm, hXm, hwm⟩ := u64_of (m : Int)
  obtain ⟨Xr, hXr, hwr⟩ := u64_of (rk : Int)
  have HX := Lib.hid (And.intro hXm hXr)
  clear hJ hw4 hXm hXr
  go_enter Try.func17, Try.ntmps17
  go_upto_region 1 with fail
  (try rw [HJI.out.2])
  obtain ⟨q, hq⟩ : ∃ z, w.heap.size = z := ⟨_, rfl⟩
  obtain ⟨B, hB⟩ : ∃ z, q + 1 = z := ⟨_, rfl⟩
  have HJ : Hid (RW w #[.slice fA m cl.fc, .slice rA rk cl.rc] q B (.slice none 0 0) [] w4 ∧ [] ++ (nb (m : Int) 4 ++ (fbs (cl.fs.map Fe.is) ++ (nb (rk : Int) 4 ++ rbs cl.rs))) = cb) := Lib.hid ⟨by rw [← hB, ← hq]; exact HJI.out.1, hcb2⟩
  rw [hq]
  clear HJI hcb2 hq hB
  have x0 : w4.cell? ⟨q, 0, none⟩ = some (.slice fA m cl.fc) := HJ.out.1.c.cell 0
  have x1 : w4.cell? ⟨q, 1, none⟩ = some (.slice rA rk cl.rc) := HJ.out.1.c.cell 1
  go_wp2_with fail
  refine (HJ.out.1.num (m : Int) 4 Xm (by decide) HX.out.1 (wlen2 HJ.out.2 HI.out.2.1)).mono ?_
  rintro e w5 ⟨v1, rfl, hJ, hbl, hno⟩
  have HJ1 := Lib.hid (And.intro hJ (wstep HJ.out.2))
  clear hJ hbl hno x0 x1
  have x0 : w5.cell? ⟨q, 0, none⟩ = some (.slice fA m cl.fc) := HJ1.out.1.c.cell 0
  have x1 : w5.cell? ⟨q, 1, none⟩ = some (.slice rA rk cl.rc) := HJ1.out.1.c.cell 1
  go_wp2_with fail
  go_loopw [3, 4] (fun v3 v4 wr => ∃ (i : Nat) (bs : List UInt8), i ≤ m ∧ v4 = .int .i64 (i : Int) ∧ Hid (RW w #[.slice fA m cl.fc, .slice rA rk cl.rc] q B v3 bs wr ∧ bs ++ (fbs ((cl.fs.drop i).map Fe.is) ++ (nb (rk : Int) 4 ++ rbs cl.rs)) = cb)) (fun _ v4 _ => m - (intOf v4).toNat)
  case atStart => exact ⟨0, _, Nat.zero_le _, rfl, HJ1⟩
  case round =>
    clear HJ HJ1 x0 x1
    obtain ⟨i, bs, hi, rfl, HJ⟩ := hrel
    obtain ⟨w5, rfl⟩ : ∃ v, v = wr := ⟨_, rfl⟩
    have x0 : w5.cell? ⟨q, 0, none⟩ = some (.slice fA m cl.fc) := HJ.out.1.c.cell 0
    have x1 : w5.cell? ⟨q, 1, none⟩ = some (.slice rA rk cl.rc) := HJ.out.1.c.cell 1
    by_cases hli : i < m
    · have hd : decide ((i : Int) < (m : Int)) = true := by simpa using hli
      obtain ⟨f, hf⟩ : ∃ x, cl.fs[i]? = some x := ⟨_, List.getElem?_eq_getElem (by rw [HI.out.2.2.2.1]; exact hli)⟩
      obtain ⟨fb, fo, eA, _, _, z0, hfe⟩ := (HFS.out w5 HJ.out.1.b).1.get hf
      have eA2 : fA = some ⟨fb, fo, none⟩ := by rw [← HFA.out.1]; exact eA
      subst eA2
      obtain ⟨l, hl⟩ : ∃ l, f.is.length = l := ⟨_, rfl⟩
      rw [hl] at z0
      obtain ⟨A', hA'⟩ : ∃ A, f.A = A := ⟨_, rfl⟩
      rw [hA'] at z0
      have HJ0 := Lib.hid (And.intro HJ.out.1 (show bs ++ (nb (l : Int) 4 ++ (ibs f.is ++ (fbs ((cl.fs.drop (i + 1)).map Fe.is) ++ (nb (rk : Int) 4 ++ rbs cl.rs)))) = cb by
        have h := HJ.out.2
        rw [drop_fe hf, fbs, hl] at h
        rw [← h]
        simp only [List.append_assoc]))
      have hlx : l ≤ maxLen := by have h1 := hfe.len; have h2 := hfe.cap; omega
      unfold maxLen at hlx
      have HZ0 : Hid (∀ V, Below w.heap.size w V → V.cell? ⟨fb, fo + i, none⟩ = some (.slice A' l f.c)) := Lib.hid fun V hV => by
        obtain ⟨fb', fo', e1, _, _, c1, _⟩ := (HFS.out V hV).1.get hf
        rw [eA] at e1
        injection e1 with e1
        injection e1 with e1 e2
        subst e1
        subst e2
        rw [hA', hl] at c1
        exact c1
      have HFI := Lib.hid (And.intro hf (And.intro hl (And.intro hA' hli)))
      obtain ⟨Xl, hXl, hwl⟩ := u64_of (l : Int)
      have HXl := Lib.hid hXl
      clear hfe hf hl hA' eA hXl
      go_wp2_with fail
      refine (HJ0.out.1.num (l : Int) 4 Xl (by decide) HXl.out (wlen2 HJ0.out.2 HI.out.2.1)).mono ?_
      rintro e w6 ⟨v1, rfl, hJ, hbl, hno⟩
      have HJ1 := Lib.hid (And.intro hJ (wstep HJ0.out.2))
      clear hJ hbl hno x0 x1 z0
      have x0 : w6.cell? ⟨q, 0, none⟩ = some (.slice (some ⟨fb, fo, none⟩) m cl.fc) := HJ1.out.1.c.cell 0
      have x1 : w6.cell? ⟨q, 1, none⟩ = some (.slice rA rk cl.rc) := HJ1.out.1.c.cell 1
      go_wp2_with fail
      go_loopw [3, 5] (fun v3 v5 wr => ∃ (j : Nat) (v : Value) (bs : List UInt8), v = v3 ∧ j ≤ l ∧ v5 = .int .i64 (j : Int) ∧ Hid (RW w #[.slice (some ⟨fb, fo, none⟩) m cl.fc, .slice rA rk cl.rc] q B v bs wr ∧ bs ++ (ibs (f.is.drop j) ++ (fbs ((cl.fs.drop (i + 1)).map Fe.is) ++ (nb (rk : Int) 4 ++ rbs cl.rs))) = cb)) (fun _ v5 _ => l - (intOf v5).toNat)
      case atStart => exact ⟨0, _, _, rfl, Nat.zero_le _, rfl, HJ1⟩
      case round =>
        clear HJ HJ0 HJ1 x0 x1
        obtain ⟨j, v, bs, rfl, hj, rfl, HJ⟩ := hrel
        obtain ⟨w6, rfl⟩ : ∃ v, v = wr := ⟨_, rfl⟩
        have x0 : w6.cell? ⟨q, 0, none⟩ = some (.slice (some ⟨fb, fo, none⟩) m cl.fc) := HJ.out.1.c.cell 0
        have x1 : w6.cell? ⟨q, 1, none⟩ = some (.slice rA rk cl.rc) := HJ.out.1.c.cell 1
        have y9 := HZ0.out w6 HJ.out.1.b
        by_cases hlj : j < l
        · have hd : decide ((j : Int) < (l : Int)) = true := by simpa using hlj
          obtain ⟨x, hx⟩ : ∃ x, f.is[j]? = some x := ⟨_, List.getElem?_eq_getElem (by rw [HFI.out.2.1]; exact hlj)⟩
          have hfin := (HFS.out w6 HJ.out.1.b).1.fs f (List.mem_of_getElem? HFI.out.1)
          obtain ⟨bi, oi, eI, _, _, z0, z1, z2, z3, z4, hok⟩ := hfin.ins.get hx
          rw [HFI.out.2.2.1] at eI
          subst eI
          have HJ0 := Lib.hid (And.intro HJ.out.1 (show bs ++ (nb (x.op : Int) 1 ++ (nb x.a 8 ++ (nb x.b 8 ++ (nb x.c 8 ++ (tb x.tx ++ (ibs (f.is.drop (j + 1)) ++ (fbs ((cl.fs.drop (i + 1)).map Fe.is) ++ (nb (rk : Int) 4 ++ rbs cl.rs)))))))) = cb by
            have h := HJ.out.2
            rw [drop_in hx, ibs, ib] at h
            rw [← h]
            simp only [List.append_assoc]))
          obtain ⟨k, a, b, c, tx⟩ := x
          replace z0 : w6.cell? ⟨bi, oi + j * 5, none⟩ = some (.int .u8 (k : Int)) := z0
          replace z1 : w6.cell? ⟨bi, oi + j * 5 + 1, none⟩ = some (.int .i64 a) := z1
          replace z2 : w6.cell? ⟨bi, oi + j * 5 + 2, none⟩ = some (.int .i64 b) := z2
          replace z3 : w6.cell? ⟨bi, oi + j * 5 + 3, none⟩ = some (.int .i64 c) := z3
          replace z4 : w6.cell? ⟨bi, oi + j * 5 + 4, none⟩ = some (.string (str tx)) := z4
          obtain ⟨Xa, hXa, hwa⟩ := u64_of a
          obtain ⟨Xb, hXb, hwb⟩ := u64_of b
          obtain ⟨Xc, hXc, hwc⟩ := u64_of c
          have HXF := Lib.hid (And.intro hXa (And.intro hXb hXc))
          have hk0 : k < 256 := hok.op
          obtain ⟨w7, hw7⟩ : ∃ W, w6.alloc (.cells #[.int .u8 (k : Int), .int .i64 a, .int .i64 b, .int .i64 c, .string (str tx)] 46) = W := ⟨_, rfl⟩
          have hb7 : Below w6.heap.size w6 w7 := by rw [← hw7]; exact (Below.refl _ _).alloc (Nat.le_refl _) _
          have B7 : Blk w7 w6.heap.size 46 #[.int .u8 (k : Int), .int .i64 a, .int .i64 b, .int .i64 c, .string (str tx)] := by rw [← hw7]; exact Blk.new _ _ _
          obtain ⟨q9, hq9⟩ : ∃ q, w6.heap.size = q := ⟨_, rfl⟩
          have hn9 : v.ownBlock ≠ some q9 := fun e => by have := (HJ.out.1.own.lt _ e).2; omega
          rw [hq9] at B7
          have hR7 := HJ0.out.1.bel hb7
          have hb8 : Below w7.heap.size w7 (w7.alloc (.cells #[.int .u8 (k : Int)] 5)) := (Below.refl _ _).alloc (Nat.le_refl _) _
          have hR8 := hR7.bel hb8
          have Bn : Blk (w7.alloc (.cells #[.int .u8 (k : Int)] 5)) w7.heap.size 5 (row8 [UInt8.ofNat k]) := by
            have := Blk.new w7 5 (row8 [UInt8.ofNat k])
            have e : row8 [UInt8.ofNat k] = #[.int .u8 (k : Int)] := by show #[Value.int .u8 ((UInt8.ofNat k).toNat : Int)] = _; rw [(nb1 k hk0).2]
            rw [e] at this ⊢
            exact this
          obtain ⟨v8, w9, hrun, hown, hgr, hob⟩ := app_own _ B v bs.length bs hR8.own w7.heap.size 1 1 [UInt8.ofNat k] rfl (Bytes.row Bn) (by have := wlen2 HJ0.out.2 HI.out.2.1; omega) hR8.lt.2.2
          have B9 : Blk w9 q9 46 #[.int .u8 (k : Int), .int .i64 a, .int .i64 b, .int .i64 c, .string (str tx)] := (B7.below hb8 B7.lt).grown hgr fun e => hn9 e.symm
          have hqo : v.ownBlock ≠ some q := fun e => by have := (hR8.own.lt _ e).1; have := hR8.lt; omega
          have HR9 : Hid (RW w #[.slice (some ⟨fb, fo, none⟩) m cl.fc, .slice rA rk cl.rc] q B v8 (bs ++ nb (k : Int) 1) w9 ∧ (bs ++ nb (k : Int) 1) ++ (nb a 8 ++ (nb b 8 ++ (nb c 8 ++ (tb tx ++ (ibs (f.is.drop (j + 1)) ++ (fbs ((cl.fs.drop (i + 1)).map Fe.is) ++ (nb (rk : Int) 4 ++ rbs cl.rs))))))) = cb) := Lib.hid ⟨⟨by rw [(nb1 k hk0).1, List.length_append]; exact hown, hR8.c.grown hgr fun e => hqo e.symm, hR8.b.trans ((Off.of_grown hgr).below hR8.b.size fun r hr => by have := (hR8.own.lt _ hr).1; have := hR8.lt; omega), hR8.lt.1, hR8.lt.2.1, Nat.le_trans hR8.lt.2.2 hgr.size⟩, wstep HJ0.out.2⟩
          have HB0 := Lib.hid B9
          have y0 : w7.cell? ⟨q9, 0, none⟩ = some (.int .u8 (k : Int)) := B7.cell 0
          have HRUN := Lib.hid hrun
          have HW := Lib.hid (And.intro hw7 (And.intro hq9 hlj))
          clear hfin hx hok hb7 B7 hw7 hq9 hn9 hR7 hR8 hb8 Bn hrun hown hgr hob B9 hqo hXa hXb hXc
          go_upto_region 10 with fail
          (try rw [HW.out.1])
          (try rw [HW.out.2.1])
          clear z0 z1 z2 z3 z4 x0 x1 y9
          have y1 : w9.cell? ⟨q9, 1, none⟩ = some (.int .i64 a) := HB0.out.cell 1
          go_wp2_with (at_builtin; refine wpList_app rfl _ _ 26 rfl _ _ _ _ rfl rfl HRUN.out ?_)
          refine (HR9.out.1.num a 8 Xa (by decide) HXF.out.1 (wlen2 HR9.out.2 HI.out.2.1)).mono ?_
          rintro e u0x ⟨v0x, rfl, hJ, hbl, hno⟩
          have HK0 := Lib.hid (And.intro hJ (wstep HR9.out.2))
          have HC0 := Lib.hid (Blk.below HB0.out hbl (Blk.lt HB0.out))
          clear hJ hbl hno y1
          have y2 : u0x.cell? ⟨q9, 2, none⟩ = some (.int .i64 b) := HC0.out.cell 2
          go_wp2_with fail
          refine (HK0.out.1.num b 8 Xb (by decide) HXF.out.2.1 (wlen2 HK0.out.2 HI.out.2.1)).mono ?_
          rintro e u1x ⟨v1x, rfl, hJ, hbl, hno⟩
          have HK1 := Lib.hid (And.intro hJ (wstep HK0.out.2))
          have HC1 := Lib.hid (Blk.below HC0.out hbl (Blk.lt HC0.out))
          clear hJ hbl hno y2
          have y3 : u1x.cell? ⟨q9, 3, none⟩ = some (.int .i64 c) := HC1.out.cell 3
          go_wp2_with fail
          refine (HK1.out.1.num c 8 Xc (by decide) HXF.out.2.2 (wlen2 HK1.out.2 HI.out.2.1)).mono ?_
          rintro e u2x ⟨v2x, rfl, hJ, hbl, hno⟩
          have HK2 := Lib.hid (And.intro hJ (wstep HK1.out.2))
          have HC2 := Lib.hid (Blk.below HC1.out hbl (Blk.lt HC1.out))
          clear hJ hbl hno y3
          have y4 : u2x.cell? ⟨q9, 4, none⟩ = some (.string (str tx)) := HC2.out.cell 4
          go_wp2_with fail
          refine (HK2.out.1.text tx (wmid HK2.out.2 HI.out.2.1) (wlen2 HK2.out.2 HI.out.2.1)).mono ?_
          rintro e u3x ⟨v3x, rfl, hJ, hbl, hno⟩
          have HK3 := Lib.hid (And.intro hJ (wstep HK2.out.2))
          have HC3 := Lib.hid (Blk.below HC2.out hbl (Blk.lt HC2.out))
          clear hJ hbl hno y4
          go_wp2_with fail
          go_roundw
          case rel => exact ⟨j + 1, _, _, rfl, by have := HW.out.2.2; omega, by go_num, HK3⟩
          case measure => have := HW.out.2.2; simp [intOf]; omega
        · obtain rfl : l = j := by omega
          have hd : decide ((l : Int) < (l : Int)) = false := by simp
          have HN := Lib.hid (And.intro HJ.out.1 (show bs ++ (fbs ((cl.fs.drop (i + 1)).map Fe.is) ++ (nb (rk : Int) 4 ++ rbs cl.rs)) = cb by
            have h := HJ.out.2
            rw [List.drop_of_length_le (by rw [HFI.out.2.1]; exact Nat.le_refl _), ibs, List.nil_append] at h
            exact h))
          go_wp2_with fail
          go_roundw
          case rel => exact ⟨i + 1, _, by have := HFI.out.2.2.2; omega, by go_num, HN⟩
          case measure => have := HFI.out.2.2.2; simp [intOf]; omega
    · obtain rfl : m = i := by omega
      have hd : decide ((m : Int) < (m : Int)) = false := by simp
      have HN := Lib.hid (And.intro HJ.out.1 (show bs ++ (nb (rk : Int) 4 ++ rbs cl.rs) = cb by
        have h := HJ.out.2
        rw [List.drop_of_length_le (by rw [HI.out.2.2.2.1]; exact Nat.le_refl _), List.map_nil, fbs, List.nil_append] at h
        exact h))
      go_wp2_with fail
      refine (HN.out.1.num (rk : Int) 4 Xr (by decide) HX.out.2 (wlen2 HN.out.2 HI.out.2.1)).mono ?_
      rintro e w6 ⟨v1, rfl, hJ, hbl, hno⟩
      have HJ1 := Lib.hid (And.intro hJ (wstep HN.out.2))
      clear hJ hbl hno x0 x1
      have x0 : w6.cell? ⟨q, 0, none⟩ = some (.slice fA m cl.fc) := HJ1.out.1.c.cell 0
      have x1 : w6.cell? ⟨q, 1, none⟩ = some (.slice rA rk cl.rc) := HJ1.out.1.c.cell 1
      go_wp2_with fail
      go_loopw [3, 7] (fun v3 v7 wr => ∃ (j : Nat) (bs : List UInt8), j ≤ rk ∧ v7 = .int .i64 (j : Int) ∧ Hid (RW w #[.slice fA m cl.fc, .slice rA rk cl.rc] q B v3 bs wr ∧ bs ++ rbs (cl.rs.drop j) = cb)) (fun _ v7 _ => rk - (intOf v7).toNat)
      case atStart => exact ⟨0, _, Nat.zero_le _, rfl, HJ1⟩
      case round =>
        clear HJ HN HJ1 x0 x1
        obtain ⟨j, bs, hj, rfl, HJ⟩ := hrel
        obtain ⟨w6, rfl⟩ : ∃ v, v = wr := ⟨_, rfl⟩
        have x0 : w6.cell? ⟨q, 0, none⟩ = some (.slice fA m cl.fc) := HJ.out.1.c.cell 0
        have x1 : w6.cell? ⟨q, 1, none⟩ = some (.slice rA rk cl.rc) := HJ.out.1.c.cell 1
        by_cases hlj : j < rk
        · have hd : decide ((j : Int) < (rk : Int)) = true := by simpa using hlj
          obtain ⟨x, hx⟩ : ∃ x, cl.rs[j]? = some x := ⟨_, List.getElem?_eq_getElem (by rw [HI.out.2.2.2.2]; exact hlj)⟩
          obtain ⟨ba, oa, eA, _, _, z0, z1, hok⟩ := (HFS.out w6 HJ.out.1.b).2.get hx
          have eA2 : rA = some ⟨ba, oa, none⟩ := by rw [← HFA.out.2]; exact eA
          subst eA2
          obtain ⟨r1, r2⟩ := x
          have HZ1 : Hid (∀ V, Below w.heap.size w V → V.cell? ⟨ba, oa + j * 2 + 1, none⟩ = some (.string (str r2))) := Lib.hid fun V hV => by
            obtain ⟨fb', fo', e1, _, _, c0, c1, _⟩ := (HFS.out V hV).2.get hx
            rw [eA] at e1
            injection e1 with e1
            injection e1 with e1 e2
            subst e1
            subst e2
            exact c1
          have HJ0 := Lib.hid (And.intro HJ.out.1 (show bs ++ (tb r1 ++ (tb r2 ++ rbs (cl.rs.drop (j + 1)))) = cb by
            have h := HJ.out.2
            rw [drop_rt hx, rbs] at h
            exact h))
          replace z0 : w6.cell? ⟨ba, oa + j * 2, none⟩ = some (.string (str r1)) := z0
          have HL := Lib.hid hlj
          clear hx hok z1
          go_wp2_with fail
          refine (HJ0.out.1.text r1 (wmid HJ0.out.2 HI.out.2.1) (wlen2 HJ0.out.2 HI.out.2.1)).mono ?_
          rintro e w7 ⟨v1, rfl, hJ, hbl, hno⟩
          have HJ1 := Lib.hid (And.intro hJ (wstep HJ0.out.2))
          have z1 := HZ1.out w7 hJ.b
          clear hJ hbl hno x0 x1 z0
          have x0 : w7.cell? ⟨q, 0, none⟩ = some (.slice fA m cl.fc) := HJ1.out.1.c.cell 0
          have x1 : w7.cell? ⟨q, 1, none⟩ = some (.slice (some ⟨ba, oa, none⟩) rk cl.rc) := HJ1.out.1.c.cell 1
          go_wp2_with fail
          refine (HJ1.out.1.text r2 (wmid HJ1.out.2 HI.out.2.1) (wlen2 HJ1.out.2 HI.out.2.1)).mono ?_
          rintro e w8 ⟨v2, rfl, hJ, hbl, hno⟩
          have HJ2 := Lib.hid (And.intro hJ (wstep HJ1.out.2))
          clear hJ hbl hno x0 x1 z1
          go_wp2_with fail
          go_roundw
          case rel => exact ⟨j + 1, _, by have := HL.out; omega, by go_num, HJ2⟩
          case measure => have := HL.out; simp [intOf]; omega
        · obtain rfl : rk = j := by omega
          have hd : decide ((rk : Int) < (rk : Int)) = false := by simp
          have HZ : Hid (bs = cb) := Lib.hid (by
            have h := HJ.out.2
            rw [List.drop_of_length_le (by rw [HI.out.2.2.2.2]; exact Nat.le_refl _), rbs, List.append_nil] at h
            exact h)
          have HE := Lib.hid (And.intro (own_base HJ.out.1.own (show w.heap.size ≤ B by have h1 := HJ.out.1.lt; omega)) HJ.out.1.b)
          rw [HZ.out] at HE
          go_wp2_with fail
          go_ret
          exact ⟨_, rfl, HE.out⟩
end Go.Proofs.Ytimkiifcmegfeaa
/- code: the reference's Same. -/
namespace Go.Proofs.Ytimkiifcmegfeaa
open Go.RowKit
set_option linter.unusedVariables false
set_option linter.unusedSimpArgs false
attribute [local go_sem] Oper.semAt_some
theorem cap_of {w : World} {B : Nat} {e : TypeId} {s : Nat} {A : Option Addr} {n c : Nat} {xs : List Value} (h : w.ownsRow B e s (.slice A n c) n xs) : n ≤ c ∧ c ≤ 9223372036854775807 := by
  rcases h.2 with ⟨e, e0⟩ | ⟨g, cap', cur, e, _, _, h3, h4, _⟩
  · injection e with e1 e2 e3
    subst e3
    exact ⟨by omega, by omega⟩
  · injection e with e1 e2 e3
    subst e3
    exact ⟨h3, by unfold maxLen at h4; omega⟩
theorem rwrite_sl (a : Cl) (w V : World) (h : Below w.heap.size w V) (ha : a.At (fun k => k < w.heap.size) w) (hla : (cbytes a.cd).length ≤ 1000000) {xa : List UInt8} {la : Nat} (hx : cbytes a.cd = xa) (hl : xa.length = la) :
    Calls Try.prog 17 #[.agg #[.slice a.fA a.fs.length a.fc, .slice a.rA a.rs.length a.rc]] V fun e w' => ∃ A c, e = .returned (.slice A la c) ∧ w'.ownsRow V.heap.size 5 1 (.slice A la c) la (xa.map bv) ∧ Below V.heap.size V w' := by
  refine (rwrite_any a V ((ha.bel h).mono fun k _ hk => Nat.lt_of_lt_of_le hk h.size) hla).mono ?_
  rintro e w' ⟨v, rfl, h1, h2⟩
  rw [hx, hl] at h1
  obtain ⟨A, c, rfl⟩ := own_shape h1
  exact ⟨A, c, rfl, h1, h2⟩
set_option maxRecDepth 20000 in
set_option maxHeartbeats 400000 in
theorem same_any (a b : Cl) (w : World) (ha : a.At (fun k => k < w.heap.size) w) (hb : b.At (fun k => k < w.heap.size) w) (hla : (cbytes a.cd).length ≤ 1000000) (hlb : (cbytes b.cd).length ≤ 1000000) :
    Calls Try.prog 18 #[.agg #[.slice a.fA a.fs.length a.fc, .slice a.rA a.rs.length a.rc], .agg #[.slice b.fA b.fs.length b.fc, .slice b.rA b.rs.length b.rc]] w fun e w' => e = .returned (.bool (decide (cbytes a.cd = cbytes b.cd))) ∧ Below w.heap.size w w' := by
  obtain ⟨xa, hxa⟩ : ∃ z, cbytes a.cd = z := ⟨_, rfl⟩
  obtain ⟨xb, hxb⟩ : ∃ z, cbytes b.cd = z := ⟨_, rfl⟩
  obtain ⟨la, hlae⟩ : ∃ z, xa.length = z := ⟨_, rfl⟩
  obtain ⟨lb, hlbe⟩ : ∃ z, xb.length = z := ⟨_, rfl⟩
  have HWA := Lib.hid (fun (V : World) (h : Below w.heap.size w V) => rwrite_sl a w V h ha hla hxa hlae)
  have HWB := Lib.hid (fun (V : World) (h : Below w.heap.size w V) => rwrite_sl b w V h hb hlb hxb hlbe)
  rw [hxa, hxb]
  rw [hxa, hlae] at hla
  rw [hxb, hlbe] at hlb
  have HLN := Lib.hid (And.intro hla (And.intro hlb (And.intro hlae hlbe)))
  obtain ⟨R, hR⟩ : ∃ z, decide (xa = xb) = z := ⟨_, rfl⟩
  rw [hR]
  clear hla hlb hlae hlbe hxa hxb
  obtain ⟨w2, hw2⟩ : ∃ V, (w.alloc (.cells #[.slice a.fA a.fs.length a.fc, .slice a.rA a.rs.length a.rc] 25)).alloc (.cells #[.slice b.fA b.fs.length b.fc, .slice b.rA b.rs.length b.rc] 25) = V := ⟨_, rfl⟩
  have hb2 : Below w.heap.size w w2 := by rw [← hw2]; exact ((Below.refl _ _).alloc (Nat.le_refl _) _).alloc (by simp) _
  have B0 : Blk w2 w.heap.size 25 #[.slice a.fA a.fs.length a.fc, .slice a.rA a.rs.length a.rc] := by rw [← hw2]; exact (Blk.new _ _ _).alloc _
  have B1 : Blk w2 (w.heap.size + 1) 25 #[.slice b.fA b.fs.length b.fc, .slice b.rA b.rs.length b.rc] := by
    rw [← hw2]
    have := Blk.new (w.alloc (.cells #[.slice a.fA a.fs.length a.fc, .slice a.rA a.rs.length a.rc] 25)) 25 #[.slice b.fA b.fs.length b.fc, .slice b.rA b.rs.length b.rc]
    rw [World.size_alloc] at this
    exact this
  have HW := Lib.hid (And.intro hw2 (And.intro hb2 (And.intro B0 B1)))
  have HR := Lib.hid hR
  clear ha hb hw2 hb2 B0 B1 hR
  go_enter Try.func18, Try.ntmps18
  go_upto_region 1 with fail
  rw [HW.out.1]
  obtain ⟨q0, hq0⟩ : ∃ z, w.heap.size = z := ⟨_, rfl⟩
  obtain ⟨q1, hq1⟩ : ∃ z, q0 + 1 = z := ⟨_, rfl⟩
  have HS : Hid (∀ V, Below w2.heap.size w2 V → (V.cell? ⟨q0, 0, none⟩ = some (.slice a.fA a.fs.length a.fc) ∧ V.cell? ⟨q0, 1, none⟩ = some (.slice a.rA a.rs.length a.rc)) ∧ V.cell? ⟨q1, 0, none⟩ = some (.slice b.fA b.fs.length b.fc) ∧ V.cell? ⟨q1, 1, none⟩ = some (.slice b.rA b.rs.length b.rc)) := Lib.hid fun V hV => by
    rw [← hq1, ← hq0]
    exact ⟨⟨(HW.out.2.2.1.below hV HW.out.2.2.1.lt).cell 0, (HW.out.2.2.1.below hV HW.out.2.2.1.lt).cell 1⟩, (HW.out.2.2.2.below hV HW.out.2.2.2.lt).cell 0, (HW.out.2.2.2.below hV HW.out.2.2.2.lt).cell 1⟩
  have HT : Hid (∀ V, Below w2.heap.size w2 V → Below w.heap.size w V) := Lib.hid fun V hV => HW.out.2.1.trans (hV.mono HW.out.2.1.size)
  rw [hq0, hq1]
  have HW2 := Lib.hid (And.intro hq0 hq1)
  clear hq0 hq1 HW
  obtain ⟨⟨y0, y1⟩, y2, y3⟩ := HS.out w2 (Below.refl _ _)
  have HBd : Hid (Below w2.heap.size w2 w2.drew) := Lib.hid ((Below.refl _ _).drew)
  obtain ⟨wd, hwd⟩ : ∃ z, w2.drew = z := ⟨_, rfl⟩
  rw [hwd] at HBd
  have HCA := Lib.hid (HWA.out wd (HT.out _ HBd.out))
  rw [← hwd] at HCA
  clear hwd
  go_region_with (first
      | (go_at_call 16; refine (eq_any Aa Ab la ca lb cb xa xb wb HLN.out.2.2.1 HLN.out.2.2.2 (Bytes.of_own HOA2.out) (Bytes.of_own HOB.out) ⟨(cap_of HOA.out).1, (cap_of HOA.out).2, by have := HLN.out; omega⟩ ⟨(cap_of HOB.out).1, (cap_of HOB.out).2, by have := HLN.out; omega⟩).mono ?_; rintro e wc ⟨rfl, hbc⟩
         have HBc := Lib.hid (HBb.out.trans (hbc.mono HBb.out.size))
         clear hbc)
      | (go_at_call 17; refine (HWB.out _ (HT.out _ HBa.out)).mono ?_; rintro e wb ⟨Ab, cb, rfl, ownb, hbb⟩
         have HBb := Lib.hid (HBa.out.trans (hbb.mono HBa.out.size))
         have HOA2 := Lib.hid (own_below HOA.out hbb)
         have HOB := Lib.hid ownb
         clear ownb hbb)
      | (go_at_call 17; refine HCA.out.mono ?_; rintro e wa ⟨Aa, ca, rfl, owna, hba⟩
         have HBa := Lib.hid (Below.trans (⟨rfl, rfl, rfl, Nat.le_refl _, fun _ _ => rfl⟩ : Below w2.heap.size w2 w2.drew) hba)
         have HOA := Lib.hid owna
         obtain ⟨⟨y0, y1⟩, y2, y3⟩ := HS.out _ HBa.out
         clear owna hba))
  all_goals
    go_wp2_with fail
    go_ret
    exact ⟨by rw [HR.out]; rfl, HT.out _ HBc.out⟩
end Go.Proofs.Ytimkiifcmegfeaa
