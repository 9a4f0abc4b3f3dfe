/- The anchor; start. -/
import Derived.Test.YtolpgpphjnkehaaGreatDoorMH
/- shadow: the anchor. -/
namespace Go.Proofs.YtolpgpphjnkehaaGreatDoor
set_option maxRecDepth 20000
open Go.RowKit Cac Dsk
open Pag (PM IntsO)
open Pag.Pgs (got setL clearL partB pagesL sectorsL turnedL partN Ok none_)
theorem same_any (A B : Option Addr) (l1 c1 l2 c2 : Nat) (xs ys : List UInt8) (w : World) (h1 : xs.length = l1) (h2 : ys.length = l2) (hA : Bytes w A xs) (hB : Bytes w B ys) :
    Calls Tryz.prog 27 #[.slice A l1 c1, .slice B l2 c2] w fun e w' => e = .returned (.bool (decide (xs = ys))) ∧ w = w' := by
  have e1 := run_str8L w A l1 c1 xs h1 hA
  have e2 := run_str8L w B l2 c2 ys h2 hB
  have e3 : ((str xs).toList == (str ys).toList) = decide (xs = ys) := by
    rw [str_toList, str_toList]
    by_cases h : xs = ys
    · simp [h]
    · simp [h]
  have HE := Lib.hid e3
  clear h1 h2 hA hB e3
  go_enter Tryz.func27, Tryz.ntmps27
  go_wp2_with fail
  go_ret
  rw [← HE.out]
  exact ⟨rfl, rfl⟩
def z9 : List Nat := List.replicate 9 0
theorem sectors_none : sectorsL none_ = [] := by
  unfold sectorsL
  rw [Pag.pagesL_none]
  rfl
theorem free_new (nn : Nat) : freeL nn z9 none_ none_ = (List.range nn).filter fun j => decide (2 ≤ j) := by
  unfold freeL freeTo used
  rw [sectors_none, List.append_nil, List.append_nil]
  refine List.filter_congr fun j _ => ?_
  by_cases h : 2 ≤ j
  · have : j ∉ z9 := fun e => by have := List.eq_of_mem_replicate e; omega
    simp [h, this]
  · simp [h]
theorem free32 : (freeL 32 z9 none_ none_).length = 30 ∧ (freeL 32 z9 none_ none_)[0]? = some 2 := by
  rw [free_new]
  exact ⟨by decide, by decide⟩
def wkO : List Nat := setL none_ 7 2
theorem wkO_ok : Ok wkO := Pag.Pgs.setL_ok Pag.Pgs.none_ok _ _
theorem wk_t1 : trn none_ none_ 7 = false := by kernel_rfl
theorem wk_t2 : trn wkO none_ 7 = true := by kernel_rfl
theorem wk_t3 : trn wkO wkO 7 = false := by kernel_rfl
theorem wk_pages : pagesL wkO = [7] := by kernel_rfl
theorem wk_free : (freeL 32 z9 none_ wkO).length = 29 := by
  have h1 := free32
  have h2 := free_put_len (nn := 32) (P := z9) (L := none_) (O := none_) (p := 7) (s := 2) Pag.Pgs.none_ok Pag.Pgs.none_ok (by decide) (by decide) (List.mem_of_getElem? h1.2) (.inl (none_get 7))
  have h3 : setL none_ ((7 : Nat) : Int) ((2 : Nat) : Int) = wkO := rfl
  rw [h3] at h2
  omega
theorem wk_free2 (P : List Nat) (hP : P.length = 9) : 18 < (freeL 32 P wkO wkO).length := by
  have h1 := (free_le 32 z9 none_ wkO).1
  have h2 := avail_mono (nn := 32) Pag.Pgs.none_ok wkO_ok wkO_ok wkO_ok (fun p j _ e => ⟨p, .inr (e.elim id id)⟩)
  have h3 := (free_le 32 P wkO wkO).2
  have h4 := wk_free
  omega
theorem litN (w : World) (n : Nat) (hn : n < 256) : Bytes (w.alloc (.cells #[.int .u8 (n : Int)] 5 (1, 2))) (some ⟨w.heap.size, 0, none⟩) [UInt8.ofNat n] := by
  have h := lit_bytes w (UInt8.ofNat n)
  rw [UInt8.toNat_ofNat', Nat.mod_eq_of_lt hn] at h
  exact h
section
variable {w0 w w' : World} {X Y : Nat → Prop} {nn most t : Nat} {a a' : Ad} {v v' : Sv} {D D' : DS} {Lc Lc' : List Fr} {now last : Nat → Option (List UInt8)}
/-- The first write of the anchor. -/
theorem wk_write1 (h : Sp w0 w X 32 most t a v D Lc now last) (hP : v.P = z9) (hL : v.L = none_) (hO : v.O = none_) (hT : Blo.Tab w0) (ht : t < 700000) (n : Nat) (hn : n < 256) :
    Calls Tryz.prog 47 #[.pointer (some ⟨a.sp, 0, none⟩), .int .i64 7, .slice (some ⟨w.heap.size, 0, none⟩) 1 1] (w.alloc (.cells #[.int .u8 (n : Int)] 5 (1, 2))) fun e w' => e = .returned (.int .i64 0) ∧
      ∃ a' v' D' Lc', Sp w0 w' X 32 most (t + 1) a' v' D' Lc' (upd now 7 (some [UInt8.ofNat n])) last ∧ a'.sp = a.sp ∧ a'.dg = a.dg ∧ v'.ep = v.ep ∧ v'.P = z9 ∧ v'.L = none_ ∧ v'.O = wkO := by
  have hb := litN w n hn
  refine ((h.below ((Below.refl _ _).alloc (Nat.le_refl _) _)).write hT (by omega) 7 _ 1 1 [UInt8.ofNat n] rfl hb).mono ?_
  rintro e w' ⟨D', Lc', a', v', now', k1, _, k3, k4, k5, k6, _, k8, hc⟩
  have hf := free32
  rw [hP, hL, hO] at hc
  rcases hc with ⟨_, q, _⟩ | ⟨_, _, q, _⟩ | ⟨_, _, _, q, _⟩ | ⟨s, _, _, _, _, q5, rfl, q6, rfl⟩
  · rcases q with q | q
    · exact absurd (show (0 : Int) ≤ 7 ∧ (7 : Int) < 1024 by decide) q
    · have : [UInt8.ofNat n].length = 1 := rfl
      omega
  · rw [wk_t1] at q; cases q
  · omega
  · rw [hf.2] at q5
    cases q5
    exact ⟨rfl, a', v', D', Lc', k1, k3, k4, k5, k6.trans hP, k8.trans hL, q6⟩
/-- The page is turned. -/
theorem wk_write2 (h : Sp w0 w X 32 most t a v D Lc now last) (hP : v.P = z9) (hL : v.L = none_) (hO : v.O = wkO) (hT : Blo.Tab w0) (ht : t < 700000) (n : Nat) (hn : n < 256) :
    Calls Tryz.prog 47 #[.pointer (some ⟨a.sp, 0, none⟩), .int .i64 7, .slice (some ⟨w.heap.size, 0, none⟩) 1 1] (w.alloc (.cells #[.int .u8 (n : Int)] 5 (1, 2))) fun e w' => e = .returned (.int .i64 0) ∧
      ∃ a' v' D' Lc', Sp w0 w' X 32 most (t + 1) a' v' D' Lc' (upd now 7 (some [UInt8.ofNat n])) last ∧ a'.sp = a.sp ∧ a'.dg = a.dg ∧ v'.ep = v.ep ∧ v'.P = z9 ∧ v'.L = none_ ∧ v'.O = wkO := by
  have hb := litN w n hn
  refine ((h.below ((Below.refl _ _).alloc (Nat.le_refl _) _)).write hT (by omega) 7 _ 1 1 [UInt8.ofNat n] rfl hb).mono ?_
  rintro e w' ⟨D', Lc', a', v', now', k1, _, k3, k4, k5, k6, _, k8, hc⟩
  rw [hP, hL, hO] at hc
  rcases hc with ⟨_, q, _⟩ | ⟨_, _, _, rfl, rfl, rfl⟩ | ⟨_, _, q, _⟩ | ⟨s, _, _, q, _⟩
  · rcases q with q | q
    · exact absurd (show (0 : Int) ≤ 7 ∧ (7 : Int) < 1024 by decide) q
    · have : [UInt8.ofNat n].length = 1 := rfl
      omega
  · exact ⟨rfl, a', _, D', Lc', k1, k3, k4, k5, hP, hL, hO⟩
  · rw [wk_t2] at q; cases q
  · rw [wk_t2] at q; cases q
/-- Behind the Commit. -/
theorem wk_write3 (h : Sp w0 w X 32 most t a v D Lc now last) (hL : v.L = wkO) (hO : v.O = wkO) (hT : Blo.Tab w0) (ht : t < 700000) (n : Nat) (hn : n < 256) :
    Calls Tryz.prog 47 #[.pointer (some ⟨a.sp, 0, none⟩), .int .i64 7, .slice (some ⟨w.heap.size, 0, none⟩) 1 1] (w.alloc (.cells #[.int .u8 (n : Int)] 5 (1, 2))) fun e w' => e = .returned (.int .i64 0) ∧
      ∃ a' v' D' Lc' now', Sp w0 w' X 32 most (t + 1) a' v' D' Lc' now' last ∧ a'.sp = a.sp ∧ a'.dg = a.dg ∧ v'.ep = v.ep ∧ v'.M = v.M ∧ v'.L = wkO := by
  have hb := litN w n hn
  refine ((h.below ((Below.refl _ _).alloc (Nat.le_refl _) _)).write hT (by omega) 7 _ 1 1 [UInt8.ofNat n] rfl hb).mono ?_
  rintro e w' ⟨D', Lc', a', v', now', k1, _, k3, k4, k5, _, k7, k8, hc⟩
  have hf := wk_free2 v.P h.gd.geo.pl
  rw [hL, hO] at hc
  rcases hc with ⟨_, q, _⟩ | ⟨_, _, q, _⟩ | ⟨_, _, _, q, _⟩ | ⟨s, _, _, _, _, _, rfl, _, _⟩
  · rcases q with q | q
    · exact absurd (show (0 : Int) ≤ 7 ∧ (7 : Int) < 1024 by decide) q
    · have : [UInt8.ofNat n].length = 1 := rfl
      omega
  · rw [wk_t3] at q; cases q
  · omega
  · exact ⟨rfl, a', v', D', Lc', now', k1, k3, k4, k5, k7, k8.trans hL⟩
/-- A Commit of a byte. -/
theorem wk_commit (h : Sp w0 w X nn most t a v D Lc now last) (he : v.ep < 1000000) (hT : Blo.Tab w0) (ht : t < 600000) (n : Nat) (hn : n < 256) :
    Calls Tryz.prog 48 #[.pointer (some ⟨a.sp, 0, none⟩), .slice (some ⟨w.heap.size, 0, none⟩) 1 1] (w.alloc (.cells #[.int .u8 (n : Int)] 5 (1, 2))) fun e w' => e = .returned (.int .i64 0) ∧
      ∃ a' v' D' Lc', Sp w0 w' X nn most (t + 1040) a' v' D' Lc' now now ∧ a'.sp = a.sp ∧ a'.dg = a.dg ∧ v'.ep = v.ep + 1 ∧ v'.M = [UInt8.ofNat n] ∧ v'.L = v.O ∧ v'.O = v.O := by
  have hb := litN w n hn
  refine ((h.below ((Below.refl _ _).alloc (Nat.le_refl _) _)).commit hT (by omega) _ 1 1 [UInt8.ofNat n] rfl hb (fun e => by cases e) (fun p e => ⟨_, 0, (Option.some.inj e).symm⟩)).mono ?_
  rintro e w' ⟨D', Lc', a', v', _, k3, k4, hc⟩
  rcases hc with ⟨_, q, _⟩ | ⟨_, q, _⟩ | ⟨rfl, _, _, rfl, k5⟩
  · have : [UInt8.ofNat n].length = 1 := rfl
    omega
  · omega
  · exact ⟨rfl, a', _, D', Lc', k5, k3, k4, rfl, rfl, rfl, rfl⟩
end
end Go.Proofs.YtolpgpphjnkehaaGreatDoor
/- shadow: the anchor, walked. -/
namespace Go.Proofs.YtolpgpphjnkehaaGreatDoor
set_option maxRecDepth 20000
open Go.RowKit Cac Dsk
open Pag (PM IntsO)
open Pag.Pgs (got setL clearL partB pagesL sectorsL turnedL partN Ok none_)
set_option maxHeartbeats 2000000 in
theorem works_any (w : World) (hT : Blo.Tab w) : Calls Tryz.prog 11 #[] w fun e w' => e = .returned (.bool true) ∧ Below w.heap.size w w' := by
  have H1 := Lib.hid (Run.new 32 w w (fun _ => False) (fun _ h => h.elim) (Below.refl _ _) (by decide))
  have HT := Lib.hid hT
  clear hT
  go_enter Tryz.func11, Tryz.ntmps11
  go_wp2_with fail
  refine H1.out.mono ?_
  rintro e w1 ⟨dg, rfl, k1, k2⟩
  have H2 := Lib.hid (format_any k1 (Hale.new 32) (by decide) (by decide) HT.out)
  clear k1 k2 H1
  go_wp2_with fail
  refine H2.out.mono ?_
  rintro e w2 ⟨rfl, k1, k2, k3⟩
  have H3 := Lib.hid (open_format (most := 4) k1 (by decide) k2 HT.out (by decide))
  clear k1 k2 k3 H2
  go_wp2_with fail
  refine H3.out.mono ?_
  rintro e w3 ⟨a, rfl, k1, kd, k3⟩
  obtain ⟨sp, hsp⟩ : ∃ sp, a.sp = sp := ⟨_, rfl⟩
  have H4 := k1.spc.epoch
  have H5 := k1.room
  rw [hsp] at H4 H5 ⊢
  have HA := Lib.hid (And.intro hsp kd)
  replace H4 := Lib.hid H4
  replace H5 := Lib.hid H5
  clear k1 kd k3 H3 hsp
  go_wp2_with fail
  refine H4.out.mono ?_
  rintro e w' ⟨rfl, rfl⟩
  clear H4
  go_wp2_with fail
  refine H5.out.mono ?_
  rintro e w4 ⟨rfl, k4, _⟩
  have hf := free32.1
  have H6 := wk_write1 k4 rfl rfl rfl HT.out (by decide) 97 (by decide)
  rw [show (a.grow w3 w4).sp = sp from HA.out.1] at H6
  rw [show ((97 : Nat) : Int) = (97 : Int) from rfl] at H6
  replace H6 := Lib.hid H6
  have hl97 := run_lit 97 w4
  have hr : (((freeL 32 (List.replicate 9 0) none_ none_).length - 18 : Nat) : Int) = 12 := by rw [show List.replicate 9 0 = z9 from rfl, hf]; rfl
  rw [hr]
  clear k4 H5 hf hr
  go_wp2_with fail
  refine H6.out.mono ?_
  rintro e w5 ⟨rfl, a2, v2, D2, L2, k1, kA, kd, ke, kP, kL, kO⟩
  replace kd : a2.dg = dg := kd.trans HA.out.2
  have H7 := wk_write2 k1 kP kL kO HT.out (by decide) 98 (by decide)
  rw [kA] at H7
  rw [show ((98 : Nat) : Int) = (98 : Int) from rfl] at H7
  replace H7 := Lib.hid H7
  have hl98 := run_lit 98 w5
  have HK2 := Lib.hid (And.intro kA (And.intro kd ke))
  clear k1 kA kd ke kP kL kO H6
  go_wp2_with fail
  refine H7.out.mono ?_
  rintro e w6 ⟨rfl, a3, v3, D3, L3, k1, kA, kd, ke, kP, kL, kO⟩
  replace kd : a3.dg = dg := kd.trans HK2.out.2.1
  replace ke : v3.ep = 1 := ke.trans HK2.out.2.2
  have H8 := k1.room
  rw [kA, kP, kL, kO, wk_free] at H8
  replace H8 := Lib.hid H8
  have HK3 := Lib.hid (And.intro kA (And.intro kd (And.intro ke (And.intro kL kO))))
  clear k1 kA kd ke kP kL kO H7
  go_wp2_with fail
  refine H8.out.mono ?_
  rintro e w7 ⟨rfl, k1, _⟩
  have H9 := wk_commit k1 (by show v3.ep < 1000000; rw [HK3.out.2.2.1]; decide) HT.out (by decide) 109 (by decide)
  rw [show (a3.grow w6 w7).sp = sp from HK3.out.1] at H9
  rw [show ((109 : Nat) : Int) = (109 : Int) from rfl] at H9
  replace H9 := Lib.hid H9
  have hl109 := run_lit 109 w7
  clear k1 H8
  go_wp2_with fail
  refine H9.out.mono ?_
  rintro e w8 ⟨rfl, a4, v4, D4, L4, k1, kA, kd, ke, kM, kL, kO⟩
  replace kd : a4.dg = dg := kd.trans HK3.out.2.1
  replace ke : v4.ep = 2 := by rw [ke]; show v3.ep + 1 = 2; rw [HK3.out.2.2.1]
  have H10 := wk_write3 k1 kL kO HT.out (by decide) 99 (by decide)
  rw [kA] at H10
  rw [show ((99 : Nat) : Int) = (99 : Int) from rfl] at H10
  replace H10 := Lib.hid H10
  have hl99 := run_lit 99 w8
  have HK4 := Lib.hid (And.intro kA (And.intro kd (And.intro ke kM)))
  clear k1 kA kd ke kM kL kO H9
  go_wp2_with fail
  refine H10.out.mono ?_
  rintro e w9 ⟨rfl, a5, v5, D5, L5, now5, k1, kA, kd, ke, kM, kL⟩
  replace kd : a5.dg = dg := kd.trans HK4.out.2.1
  replace ke : v5.ep = 2 := ke.trans HK4.out.2.2.1
  replace kM := kM.trans HK4.out.2.2.2
  have H11 := k1.abort
  rw [kA] at H11
  replace H11 := Lib.hid H11
  have HK5 := Lib.hid (And.intro kA (And.intro kd (And.intro ke (And.intro kM kL))))
  clear k1 kA kd ke kM kL H10
  go_wp2_with fail
  refine H11.out.mono ?_
  rintro e w10 ⟨rfl, L6, a6, k1, _, kA, kd⟩
  replace kd : a6.dg = dg := kd.trans HK5.out.2.1
  have H12 := k1.again (m2 := 2) HT.out (by decide)
  rw [kd] at H12
  replace H12 := Lib.hid H12
  clear k1 kA kd H11
  go_wp2_with fail
  refine H12.out.mono ?_
  rintro e w11 ⟨a7, rfl, k1, _, _⟩
  obtain ⟨tp, htp⟩ : ∃ tp, a7.sp = tp := ⟨_, rfl⟩
  have H13 := k1.spc.pages
  rw [htp] at H13
  change Calls _ _ _ _ (fun e w' => ∃ A c, e = .returned (.slice A (pagesL v5.L).length c) ∧ _) at H13
  rw [HK5.out.2.2.2.2, wk_pages] at H13
  rw [htp]
  replace H13 := Lib.hid H13
  have HK7 := Lib.hid (And.intro k1 htp)
  clear k1 H12 htp
  go_wp2_with fail
  refine H13.out.mono ?_
  rintro e w12 ⟨Ap, cp, rfl, _, _, kb⟩
  have hk12 := HK7.out.1.below kb
  have H14 := hk12.spc.meta_
  rw [HK7.out.2] at H14
  change Calls _ _ _ _ (fun e w' => ∃ A' c', e = .returned (.slice A' v5.M.length c') ∧ (v5.M.length ≤ c' ∧ _) ∧ Bytes w' A' v5.M ∧ _) at H14
  rw [HK5.out.2.2.2.1] at H14
  replace H14 := Lib.hid H14
  have HK12 := Lib.hid hk12
  clear hk12 kb H13
  go_wp2_with fail
  refine H14.out.mono ?_
  rintro e w13 ⟨Am, cm, rfl, _, km, _, _, kb⟩
  have hk13 := (HK12.out.below kb).below ((Below.refl _ _).alloc (Nat.le_refl _) (.cells #[.int .u8 109] 5 (1, 2)))
  have hlit := litN w13 109 (by decide)
  have hl2 := run_lit 109 w13
  have H15 := Lib.hid (same_any Am (some ⟨w13.heap.size, 0, none⟩) 1 cm 1 1 [UInt8.ofNat 109] [UInt8.ofNat 109] _ rfl rfl (km.below ((Below.refl _ _).alloc (Nat.le_refl _) (.cells #[.int .u8 109] 5 (1, 2)))) hlit)
  have H16 := hk13.spc.epoch
  rw [HK7.out.2] at H16
  change Calls _ _ _ _ (fun e w' => e = .returned (.int .u32 (v5.ep : Int)) ∧ _) at H16
  rw [HK5.out.2.2.1] at H16
  replace H16 := Lib.hid H16
  have H17 := hk13.read HT.out (by decide) 7
  rw [HK7.out.2] at H17
  replace H17 := Lib.hid H17
  clear hk13 hlit km kb H14
  go_wp2_with fail
  refine H15.out.mono ?_
  rintro e w' ⟨rfl, rfl⟩
  go_wp2_with fail
  refine H16.out.mono ?_
  rintro e w' ⟨rfl, rfl⟩
  go_wp2_with fail
  refine H17.out.mono ?_
  rintro e w14 ⟨D8, L8, Y8, k1, _, _, hc⟩
  obtain ⟨g, rfl, hg⟩ : ∃ g, e = .returned (.tuple #[.slice (some ⟨g, 0, none⟩) 1 1, .int .i64 0]) ∧ Blk w14 g 5 (row8 [UInt8.ofNat 98]) := by
    have hu : upd (upd (fun _ => none) 7 (some [UInt8.ofNat 97])) 7 (some [UInt8.ofNat 98]) (Int.toNat 7) = some [UInt8.ofNat 98] := rfl
    rcases hc with ⟨q, _⟩ | ⟨_, q, _⟩ | ⟨body, g, _, q, _, rfl, q2, _⟩
    · exact absurd (show (0 : Int) ≤ 7 ∧ (7 : Int) < 1024 by decide) q
    · rw [hu] at q; cases q
    · rw [hu] at q
      cases q
      exact ⟨g, rfl, q2⟩
  have hal : Below w14.heap.size w14 (w14.alloc (.cells #[.int .u8 98] 5 (1, 2))) := (Below.refl _ _).alloc (Nat.le_refl _) _
  have hlit := litN w14 98 (by decide)
  have hl3 := run_lit 98 w14
  have H18 := Lib.hid (same_any (some ⟨g, 0, none⟩) (some ⟨w14.heap.size, 0, none⟩) 1 1 1 1 [UInt8.ofNat 98] [UInt8.ofNat 98] _ rfl rfl (Bytes.below (Bytes.row (t := 5) hg) hal) hlit)
  have HF := Lib.hid (k1.spc.bel.trans (hal.mono k1.spc.bel.size))
  clear hc hg hal hlit k1 H17
  go_wp2_with fail
  refine H18.out.mono ?_
  rintro e w' ⟨rfl, rfl⟩
  go_wp2_with fail
  go_ret
  exact ⟨rfl, HF.out⟩
end Go.Proofs.YtolpgpphjnkehaaGreatDoor
/- shadow: a world of a law's own; start. -/
namespace Go.Proofs.YtolpgpphjnkehaaGreatDoor
set_option maxRecDepth 20000
open Go.RowKit Cac Dsk
open Pag (PM IntsO)
open Pag.Pgs (got setL clearL partB pagesL sectorsL turnedL partN Ok none_)
/-- A value of two parts. -/
theorem wpList_build2 {P : Program} {ops : Array Oper} {rest : List Oper} {o : Oper} {a : Act} {w : World} {Q : Exit → Act → World → Prop} (hg : o.guard = none) (t : TypeId) (x y : Operand) (ho : o.op = .build t #[(0, x), (1, y)]) (vx vy : Value) (hx : a.eval x = vx) (hy : a.eval y = vy) (cells : Array Value)
    (hb : P.built t [(0, vx), (1, vy)] = some cells) (h : wpList P ops Q rest (a.put o.dst (.agg cells)) w) : wpList P ops Q (o :: rest) a w := by
  subst hx
  subst hy
  refine wpList_build hg t #[(0, x), (1, y)] ho (by simp [hb]) ?_
  simp only [List.map_toArray, List.map_cons, List.map_nil, hb, Option.getD_some]
  exact h
/-- The cells of a state without pages. -/
def stz : List Value := List.replicate 1024 (.bool false) ++ List.replicate 1024 (.string ⟨#[]⟩) ++ [.string ⟨#[]⟩]
def wrow (x y : Option Addr) : Array Value := ([.pointer x, .pointer y] ++ stz ++ stz ++ stz ++ [.bool false] : List Value).toArray
theorem built_world (x y : Option Addr) : Tryz.prog.built 75 [(0, .pointer x), (1, .pointer y)] = some (wrow x y) := by kernel_rfl
section
variable {w0 w w' : World} {X Y : Nat → Prop} {nn most t : Nat} {a : Ad} {v : Sv} {D : DS} {Lc : List Fr} {now last : Nat → Option (List UInt8)}
theorem Sp.more (h : Sp w0 w X nn most t a v D Lc now last) (hb : Below w.heap.size w w') (Y : Nat → Prop) (hY : ∀ k, Y k → X k ∨ (w.heap.size ≤ k ∧ k < w'.heap.size)) : Sp w0 w' Y nn most t a v D Lc now last := ⟨h.spc.more hb Y hY, h.gd, h.jr⟩
theorem wrow_two (x y : Option Addr) : (wrow x y)[0]? = some (.pointer x) ∧ (wrow x y)[1]? = some (.pointer y) := ⟨by kernel_rfl, by kernel_rfl⟩
set_option maxHeartbeats 1000000 in
theorem start_any (w : World) (hT : Blo.Tab w) (n m : Nat) (hn : 16 ≤ n ∧ n ≤ 4096) (hm : 2 ≤ m ∧ m ≤ 1024) :
    Calls Tryz.prog 43 #[.int .i64 (n : Int), .int .i64 (m : Int)] w fun e w' => ∃ wp a, e = .returned (.pointer (some ⟨wp, 0, none⟩)) ∧ Blk w' wp 75 (wrow (some ⟨a.dg, 0, none⟩) (some ⟨a.sp, 0, none⟩)) ∧ w.heap.size ≤ wp ∧
      Sp w w' (fun k => k = wp) n m 4 a ⟨1, z9, [], none_, none_, false⟩ (fmtD (newD n)) [] (fun _ => none) (fun _ => none) := by
  have H1 := Lib.hid (Run.new n w w (fun _ => False) (fun _ h => h.elim) (Below.refl _ _) hn)
  have HT := Lib.hid hT
  clear hT
  go_enter Tryz.func43, Tryz.ntmps43
  go_wp2_with fail
  refine H1.out.mono ?_
  rintro e w1 ⟨dg, rfl, k1, k2⟩
  have H2 := Lib.hid (format_any k1 (Hale.new n) hn.1 (by decide) HT.out)
  clear k1 k2 H1
  go_wp2_with fail
  refine H2.out.mono ?_
  rintro e w2 ⟨rfl, k1, k2, k3⟩
  have H3 := Lib.hid (open_format (most := m) k1 hn k2 HT.out hm)
  clear k1 k2 k3 H2
  go_wp2_with fail
  refine H3.out.mono ?_
  rintro e w3 ⟨a, rfl, k1, kd, _⟩
  have hbl := built_world (some ⟨dg, 0, none⟩) (some ⟨a.sp, 0, none⟩)
  have hwr := wrow_two (some ⟨dg, 0, none⟩) (some ⟨a.sp, 0, none⟩)
  obtain ⟨Z, hZ⟩ : ∃ Z, wrow (some ⟨dg, 0, none⟩) (some ⟨a.sp, 0, none⟩) = Z := ⟨_, rfl⟩
  rw [hZ] at hbl
  have HK := Lib.hid (And.intro k1 (And.intro kd hZ))
  clear k1 kd hwr hZ H3
  go_wp2_with (refine wpList_build2 rfl 75 (.tmp 28) (.tmp 29) rfl (.pointer (some ⟨dg, 0, none⟩)) (.pointer (some ⟨a.sp, 0, none⟩)) rfl rfl Z hbl ?_)
  go_ret
  have hal : Below w3.heap.size w3 (w3.alloc (.cells Z 75)) := (Below.refl _ _).alloc (Nat.le_refl _) _
  obtain ⟨h1, h2, h3⟩ := HK.out
  have hsz : (w3.alloc (.cells Z 75)).heap.size = w3.heap.size + 1 := World.size_alloc _ _
  have h5 := h1.more hal (fun k => k = w3.heap.size) (fun k e => .inr (by have e2 : k = w3.heap.size := e; omega))
  refine ⟨_, a, rfl, ?_, ?_, h5⟩
  · rw [h2, h3]
    exact Blk.new w3 _ _
  · exact h1.spc.bel.size
end
end Go.Proofs.YtolpgpphjnkehaaGreatDoor
