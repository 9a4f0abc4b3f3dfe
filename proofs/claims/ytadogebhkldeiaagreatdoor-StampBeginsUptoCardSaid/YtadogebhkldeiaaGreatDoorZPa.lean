/- stamp: parts, large: they answer, whatever it is. -/
import Derived.Test.YtadogebhkldeiaaGreatDoorZI
import Derived.Test.YtadogebhkldeiaaGreatDoorZOd
namespace Go.Proofs.YtadogebhkldeiaaGreatDoor
open Go.RowKit Ty
set_option linter.unusedVariables false
set_option linter.unusedSimpArgs false
attribute [local go_sem] Oper.semAt_some
set_option maxRecDepth 20000 in
set_option maxHeartbeats 8000000 in
theorem parts_any {F : Nat → Prop} : ∀ (t : Ty) (A : Option Addr) (c : Nat) (w : World), Ty.At F w A t.ks → t.ks.length ≤ c → c ≤ maxLen →
    Calls Tryz.prog 9 #[.slice A t.ks.length c] w fun e w' => (∃ z : Int, e = .returned (.int .i64 z)) ∧ w = w' := Ty.ind fun k nm n ks ih A c w hA hc hm => by
  have hA : Ty.At F w A ks := hA
  have hc : ks.length ≤ c := hc
  show Calls Tryz.prog 9 #[.slice A ks.length c] w fun e w' => (∃ z : Int, e = .returned (.int .i64 z)) ∧ w = w'
  obtain ⟨kl, hkl⟩ : ∃ kl, ks.length = kl := ⟨_, rfl⟩
  rw [hkl] at hc ⊢
  have hmx : kl ≤ 9223372036854775807 := by unfold maxLen at hm; omega
  have HK := Lib.hid (And.intro hkl (And.intro hA ih))
  clear hkl hA ih hc hm
  go_enter Tryz.func9, Tryz.ntmps9
  go_wp2_with fail
  go_loopw [3, 4] (fun nv iv wr => ∃ (i : Nat) (z : Int), i ≤ kl ∧ iv = .int .i64 (i : Int) ∧ nv = .int .i64 z ∧ w = wr) (fun _ iv _ => kl - (intOf iv).toNat)
  case atStart => exact ⟨0, kl, Nat.zero_le _, rfl, rfl, rfl⟩
  case round =>
    obtain ⟨i, z, hi, rfl, rfl, rfl⟩ := hrel
    by_cases hli : i < kl
    · have hd : decide ((i : Int) < (kl : Int)) = true := by simpa using hli
      obtain ⟨t, ht⟩ : ∃ t, ks[i]? = some t := ⟨_, List.getElem?_eq_getElem (by rw [HK.out.1]; exact hli)⟩
      obtain ⟨b, off, A', c', rfl, _, hbl, z0, z1, z2, z3, _, hlc, hcm, hAt⟩ := HK.out.2.1.get ht
      have HC := Lib.hid (HK.out.2.2 t (List.mem_of_getElem? ht) A' c' w hAt hlc hcm)
      clear ht hAt hlc hcm hbl z0 z1 z2
      go_wp2_with fail
      refine HC.out.mono ?_
      rintro e w7 ⟨⟨y, rfl⟩, rfl⟩
      clear HC z3
      go_wp2_with fail
      go_roundw
      case rel => exact ⟨i + 1, _, by omega, by go_num, rfl, trivial⟩
      case measure => simp [intOf]; omega
    · obtain rfl : i = kl := by omega
      have hd : decide ((i : Int) < (i : Int)) = false := by simp
      go_wp2_with fail
      go_ret
      exact ⟨⟨_, rfl⟩, rfl⟩
set_option maxRecDepth 20000 in
set_option maxHeartbeats 8000000 in
theorem large_any (t : Ty) (A : Option Addr) (c : Nat) (ds : List Dc) (dsA : Option Addr) (dn dsc : Nat) (hdn : ds.length = dn) (hdx : dn ≤ 400000) (w : World) (hT : Te.in_ (fun k => k < w.heap.size) w ⟨t, A, c⟩) (hK : DsAt (fun k => k < w.heap.size) w dsA ds)
    (hD : ∀ d ∈ ds, d.vs.length ≤ 2000000 ∧ d.cs.length ≤ 1000000) :
    Calls Tryz.prog 4 #[t.val A c, .slice dsA dn dsc] w fun e w' => (∃ b : Bool, e = .returned (.bool b)) ∧ Below w.heap.size w w' := by
  obtain ⟨k, nm, n, ks⟩ := t
  obtain ⟨kl, hkl⟩ : ∃ kl, ks.length = kl := ⟨_, rfl⟩
  show Calls Tryz.prog 4 #[.agg #[.int .u8 (k : Int), .string (str nm), .int .i64 n, .slice A ks.length c], .slice dsA dn dsc] w fun e w' => (∃ b : Bool, e = .returned (.bool b)) ∧ Below w.heap.size w w'
  -- the box; the row of one
  obtain ⟨q, hq⟩ : ∃ q, w.heap.size = q := ⟨_, rfl⟩
  obtain ⟨w1, hw1⟩ : ∃ W, w.alloc (.cells #[.int .u8 (k : Int), .string (str nm), .int .i64 n, .slice A kl c] 24) = W := ⟨_, rfl⟩
  have hb1 : Below w.heap.size w w1 := by rw [← hw1]; exact (Below.refl _ _).alloc (Nat.le_refl _) _
  have hB1 : Blk w1 w.heap.size 24 #[.int .u8 (k : Int), .string (str nm), .int .i64 n, .slice A kl c] := by rw [← hw1]; exact Blk.new _ _ _
  have hn1 : w1.heap.size = q + 1 := by rw [← hw1, ← hq]; simp
  obtain ⟨w2, hw2⟩ : ∃ W, w1.alloc (.cells #[.int .u8 (k : Int), .string (str nm), .int .i64 n, .slice A kl c] 24) = W := ⟨_, rfl⟩
  have hb2 : Below w1.heap.size w1 w2 := by rw [← hw2]; exact (Below.refl _ _).alloc (Nat.le_refl _) _
  have hB2 : Blk w2 w1.heap.size 24 #[.int .u8 (k : Int), .string (str nm), .int .i64 n, .slice A kl c] := by rw [← hw2]; exact Blk.new _ _ _
  have hin2 : Te.in_ (fun b => b < w1.heap.size) w2 ⟨.node k nm n ks, A, c⟩ := (hT.bel (hb1.trans (hb2.mono hb1.size))).mono fun b h => Nat.lt_of_lt_of_le h hb1.size
  have hA2 : Ty.At (fun b => b < w2.heap.size) w2 (some ⟨w1.heap.size, 0, none⟩) [.node k nm n ks] := by
    have := At_blk (es := [⟨.node k nm n ks, A, c⟩]) (F := fun b => b < w2.heap.size) (by rw [← hkl] at hB2; exact hB2) (fun i v hv => by rw [List.getElem?_toArray]; exact hv) (fun e he => by rw [List.mem_singleton.1 he]; exact hin2.mono fun b h => Nat.lt_of_lt_of_le h hb2.size) hB2.lt
    exact this
  have hP := parts_any (F := fun b => b < w2.heap.size) (.node 0 [] 0 [.node k nm n ks]) (some ⟨w1.heap.size, 0, none⟩) 1 w2 hA2 (by show 1 ≤ 1; omega) (by decide)
  change Calls Tryz.prog 9 #[.slice (some ⟨w1.heap.size, 0, none⟩) 1 1] w2 (fun e w' => (∃ z : Int, e = .returned (.int .i64 z)) ∧ w2 = w') at hP
  rw [hn1] at hP
  have h02 : Below w.heap.size w w2 := hb1.trans (hb2.mono hb1.size)
  rw [hq] at hB1
  have x0 : w1.cell? ⟨q, 0, none⟩ = some (.int .u8 (k : Int)) := hB1.cell 0
  have x1 : w1.cell? ⟨q, 1, none⟩ = some (.string (str nm)) := hB1.cell 1
  have x2 : w1.cell? ⟨q, 2, none⟩ = some (.int .i64 n) := hB1.cell 2
  have x3 : w1.cell? ⟨q, 3, none⟩ = some (.slice A kl c) := hB1.cell 3
  have HK := Lib.hid (And.intro hdn (And.intro hD (fun W (h : Below w.heap.size w W) => ((hK.off (Off.of_new h (fun k => ¬ (k < w.heap.size))) fun b h1 h2 => h2 h1).mono fun k h1 => Nat.lt_of_lt_of_le h1 h.size : DsAt (fun k => k < W.heap.size) W dsA ds))))
  have HP := Lib.hid hP
  have HW := Lib.hid (And.intro hw1 (And.intro hq (And.intro hw2 (And.intro hn1 h02))))
  rw [hkl]
  clear hdn hT hK hD hw1 hb1 hB1 hw2 hb2 hB2 hin2 hA2 hP h02 hn1 hq hkl
  go_enter Tryz.func4, Tryz.ntmps4
  go_upto_region 1 with fail
  (try rw [HW.out.1])
  (try rw [HW.out.2.1])
  go_wp2_with fail
  (try rw [HW.out.2.2.1])
  (try rw [HW.out.2.2.2.1])
  refine HP.out.mono ?_
  rintro e w3 ⟨⟨z0, rfl⟩, rfl⟩
  have HB := Lib.hid HW.out.2.2.2.2
  clear HP HW x0 x1 x2 x3
  go_wp2_with fail
  go_loopw [5, 6] (fun nv iv wr => ∃ (i : Nat) (z : Int), i ≤ dn ∧ iv = .int .i64 (i : Int) ∧ nv = .int .i64 z ∧ Hid (Below w.heap.size w wr)) (fun _ iv _ => dn - (intOf iv).toNat)
  case atStart => exact ⟨0, _, Nat.zero_le _, rfl, rfl, HB⟩
  case round =>
    obtain ⟨i, z, hi, rfl, rfl, HJ⟩ := hrel
    obtain ⟨wo, rfl⟩ : ∃ v, v = wr := ⟨_, rfl⟩
    by_cases hli : i < dn
    · have hd : decide ((i : Int) < (dn : Int)) = true := by simpa using hli
      by_cases h60 : i ≤ 60
      · have hg : decide ((i : Int) ≤ 60) = true := by simp; omega
        obtain ⟨d, hdd⟩ : ∃ d, ds[i]? = some d := ⟨_, List.getElem?_eq_getElem (by rw [HK.out.1]; exact hli)⟩
        obtain ⟨b, off, rfl, _, hbl, hcl, hKd, _⟩ := HK.out.2.2 wo HJ.out i d hdd
        have HD := Lib.hid (And.intro hKd (And.intro (HK.out.2.1 d (List.mem_of_getElem? hdd)) hbl))
        obtain ⟨vl, hvl⟩ : ∃ vl, d.vs.length = vl := ⟨_, rfl⟩
        obtain ⟨cl, hcn⟩ : ∃ cl, d.cs.length = cl := ⟨_, rfl⟩
        have y2 : wo.cell? ⟨b, off + i * 16 + 2, none⟩ = some (.slice d.vA d.vs.length d.vc) := hcl 2 _ rfl
        have y3 : wo.cell? ⟨b, off + i * 16 + 3, none⟩ = some (.slice d.cA d.cs.length d.cc) := hcl 3 _ rfl
        rw [hvl] at y2
        rw [hcn] at y3
        have HL := Lib.hid (And.intro hvl hcn)
        have hcx : cl ≤ 1000000 := by rw [← hcn]; exact HD.out.2.1.2
        have hvx : vl ≤ 2000000 := by rw [← hvl]; exact HD.out.2.1.1
        have HC3 : Hid (∀ W, Below wo.heap.size wo W → W.cell? ⟨b, off + i * 16 + 3, none⟩ = some (.slice d.cA cl d.cc) ∧ CnAt (fun k => k < W.heap.size) W d.cA d.cs) := Lib.hid fun W hW => ⟨(hW.cell (p := ⟨b, off + i * 16 + 3, none⟩) hbl).trans y3, (hKd.2.off (Off.of_new hW (fun k => ¬ (k < wo.heap.size))) fun b h1 h2 => h2 h1).mono fun k h => Nat.lt_of_lt_of_le h hW.size⟩
        clear hdd hcl hKd hvl hcn hbl y3
        go_wp2_with fail
        go_loopw [5, 7] (fun nv jv wi => ∃ (j : Nat) (z : Int), j ≤ cl ∧ jv = .int .i64 (j : Int) ∧ nv = .int .i64 z ∧ Hid (Below wo.heap.size wo wi)) (fun _ jv _ => cl - (intOf jv).toNat)
        case atStart => exact ⟨0, _, Nat.zero_le _, rfl, rfl, Lib.hid (Below.refl _ _)⟩
        case round =>
          obtain ⟨j, z1, hj, rfl, rfl, HI⟩ := hrel
          obtain ⟨wi, rfl⟩ : ∃ v, v = wr := ⟨_, rfl⟩
          clear y2
          obtain ⟨y3, hcn⟩ := HC3.out wi HI.out
          by_cases hlj : j < cl
          · have hd2 : decide ((j : Int) < (cl : Int)) = true := by simpa using hlj
            obtain ⟨cn, hcj⟩ : ∃ c, d.cs[j]? = some c := ⟨_, List.getElem?_eq_getElem (by rw [HL.out.2]; exact hlj)⟩
            obtain ⟨b2, off2, A2, c2, e2, _, hb2, hcl2, hin2⟩ := hcn j cn hcj
            obtain ⟨tl, htl⟩ : ∃ tl, cn.ty.ks.length = tl := ⟨_, rfl⟩
            have u2 : wi.cell? ⟨b2, off2 + j * 6 + 2, none⟩ = some (.int .u8 (cn.ty.k : Int)) := hcl2 2 _ rfl
            have u3 : wi.cell? ⟨b2, off2 + j * 6 + 2 + 1, none⟩ = some (.string (str cn.ty.nm)) := hcl2 3 _ rfl
            have u4 : wi.cell? ⟨b2, off2 + j * 6 + 2 + 2, none⟩ = some (.int .i64 cn.ty.n) := hcl2 4 _ rfl
            have u5 : wi.cell? ⟨b2, off2 + j * 6 + 2 + 3, none⟩ = some (.slice A2 cn.ty.ks.length c2) := hcl2 5 _ rfl
            obtain ⟨w4, hw4⟩ : ∃ W, wi.alloc (.cells #[.int .u8 (cn.ty.k : Int), .string (str cn.ty.nm), .int .i64 cn.ty.n, .slice A2 cn.ty.ks.length c2] 24) = W := ⟨_, rfl⟩
            have hb4 : Below wi.heap.size wi w4 := by rw [← hw4]; exact (Below.refl _ _).alloc (Nat.le_refl _) _
            have hB4 : Blk w4 wi.heap.size 24 #[.int .u8 (cn.ty.k : Int), .string (str cn.ty.nm), .int .i64 cn.ty.n, .slice A2 cn.ty.ks.length c2] := by rw [← hw4]; exact Blk.new _ _ _
            have hA4 : Ty.At (fun b => b < w4.heap.size) w4 (some ⟨wi.heap.size, 0, none⟩) [cn.ty] := At_blk (es := [⟨cn.ty, A2, c2⟩]) (F := fun b => b < w4.heap.size) hB4 (fun i v hv => by rw [List.getElem?_toArray]; exact hv) (fun e he => by rw [List.mem_singleton.1 he]; exact (hin2.bel hb4).mono fun b h => Nat.lt_of_lt_of_le h hb4.size) hB4.lt
            have hP := parts_any (F := fun b => b < w4.heap.size) (.node 0 [] 0 [cn.ty]) (some ⟨wi.heap.size, 0, none⟩) 1 w4 hA4 (by show 1 ≤ 1; omega) (by decide)
            change Calls Tryz.prog 9 #[.slice (some ⟨wi.heap.size, 0, none⟩) 1 1] w4 (fun e w' => (∃ z : Int, e = .returned (.int .i64 z)) ∧ w4 = w') at hP
            rw [htl] at u5 hw4
            have HP4 := Lib.hid hP
            have HW4 := Lib.hid (And.intro hw4 (HI.out.trans (hb4.mono HI.out.size)))
            rw [e2] at y3
            clear hw4 hb4 hB4 hA4 hP hin2 hcl2 hcj htl hb2 hcn
            go_wp2_with fail
            (try rw [HW4.out.1])
            refine HP4.out.mono ?_
            rintro e w5 ⟨⟨y, rfl⟩, rfl⟩
            have HN := Lib.hid HW4.out.2
            clear HP4 HW4 y3 u2 u3 u4 u5
            go_wp2_with fail
            go_roundw
            case rel => exact ⟨j + 1, _, by omega, by go_num, rfl, HN⟩
            case measure => simp [intOf]; omega
          · obtain rfl : cl = j := by omega
            have hd2 : decide ((cl : Int) < (cl : Int)) = false := by simp
            have HN : Hid (Below w.heap.size w wi) := Lib.hid (HJ.out.trans (HI.out.mono HJ.out.size))
            go_wp2_with fail
            go_roundw
            case rel => exact ⟨i + 1, _, by omega, by go_num, rfl, HN⟩
            case measure => simp [intOf]; omega
      · have hg : decide ((i : Int) ≤ 60) = false := by simp; omega
        go_wp2_with fail
        all_goals go_ret
        all_goals exact ⟨by first | exact ⟨_, rfl⟩ | exact .inl rfl | exact .inr rfl, HJ.out⟩
    · obtain rfl : dn = i := by omega
      have hd : decide ((dn : Int) < (dn : Int)) = false := by simp
      go_wp2_with fail
      all_goals go_ret
      all_goals exact ⟨by first | exact ⟨_, rfl⟩ | exact .inl rfl | exact .inr rfl, HJ.out⟩
end Go.Proofs.YtadogebhkldeiaaGreatDoor
