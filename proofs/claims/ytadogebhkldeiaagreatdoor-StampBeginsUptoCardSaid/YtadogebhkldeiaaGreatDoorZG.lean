/- stamp, numbers too: Text. -/
import Derived.Test.YtadogebhkldeiaaGreatDoorZO
namespace Go.Proofs.YtadogebhkldeiaaGreatDoor
open Go.RowKit Ty
set_option linter.unusedVariables false
set_option linter.unusedSimpArgs false
attribute [local go_sem] Oper.semAt_some
/-- A row of declarations in memory. -/
def DsAt (X : Nat → Prop) (w : World) (A : Option Addr) (ds : List Dc) : Prop := ∀ (r : Nat) (d : Dc), ds[r]? = some d → ∃ b off, A = some ⟨b, off, none⟩ ∧ X b ∧ b < w.heap.size ∧ (∀ (j : Nat) (v : Value), d.cells[j]? = some v → w.cell? ⟨b, off + r * 16 + j, none⟩ = some v) ∧ d.K X w ∧ d.nm.length ≤ maxLen
theorem DsAt.off {X G : Nat → Prop} {w w' : World} {A : Option Addr} {ds : List Dc} (h : DsAt X w A ds) (ho : Off G w w') (hG : ∀ b, X b → ¬ G b) : DsAt X w' A ds := fun r d hd => by
  obtain ⟨b, off, e, hX, hlt, hc, hk, hn⟩ := h r d hd
  exact ⟨b, off, e, hX, Nat.lt_of_lt_of_le hlt ho.size, fun j v hj => (World.cell?_of_block (a := ⟨b, off + r * 16 + j, none⟩) (ho.block b hlt (hG b hX))).trans (hc j v hj), hk.off ho hG, hn⟩
theorem DsAt.mono {X Y : Nat → Prop} {w : World} {A : Option Addr} {ds : List Dc} (h : DsAt X w A ds) (hX : ∀ b, X b → Y b) : DsAt Y w A ds := fun r d hd => by
  obtain ⟨b, off, e, h1, hlt, hc, hk, hn⟩ := h r d hd
  exact ⟨b, off, e, hX b h1, hlt, hc, hk.mono hX, hn⟩
/-- One declaration more: of each name the first datatype. -/
def put1 (D : List UInt8 → Option Dc) (d : Dc) : List UInt8 → Option Dc := if (D d.nm).isSome = false ∧ d.k = 1 then fun s => if s = d.nm then some d else D s else D
def bookD (ds : List Dc) : List UInt8 → Option Dc := ds.foldl put1 fun _ => none
theorem bookD_next {ds : List Dc} {i : Nat} {d : Dc} (h : ds[i]? = some d) : bookD (ds.take (i + 1)) = put1 (bookD (ds.take i)) d := by
  rw [List.take_add_one, h]
  unfold bookD
  rw [List.foldl_append]
  rfl
theorem fold_in : ∀ (ds : List Dc) (D : List UInt8 → Option Dc) (s : List UInt8) (d : Dc), ds.foldl put1 D s = some d → D s = some d ∨ (d ∈ ds ∧ d.k = 1 ∧ d.nm = s)
  | [], D, s, d, h => .inl h
  | e :: ds, D, s, d, h => by
    rcases fold_in ds (put1 D e) s d h with h | h
    · unfold put1 at h
      split at h
      · rename_i h2
        simp only at h
        split at h
        · rename_i h3
          injection h with h
          subst h
          exact .inr ⟨List.mem_cons_self .., h2.2, h3.symm⟩
        · exact .inl h
      · exact .inl h
    · exact .inr ⟨List.mem_cons_of_mem _ h.1, h.2⟩
theorem bookD_in {ds : List Dc} {s : List UInt8} {d : Dc} (h : bookD ds s = some d) : d ∈ ds ∧ d.k = 1 ∧ d.nm = s := by
  rcases fold_in ds _ s d h with h | h
  · cases h
  · exact h
/-- What Text answers. -/
def ansT (r : Option (List UInt8)) : List UInt8 × Nat := match r with
  | none => ([], 13)
  | some tx => if 200 < tx.length then ([], 16) else (tx, 0)
set_option maxRecDepth 100000 in
set_option maxHeartbeats 8000000 in
theorem Text_any (ds : List Dc) (dsA : Option Addr) (dn dsc : Nat) (hdn : ds.length = dn) (hdx : dn ≤ 400000) (hD : ∀ d ∈ ds, d.k = 1 → Dok (bookD ds) d) (t : Ty) (A : Option Addr) (c : Nat) (hnl : t.nm.length ≤ maxLen) (hsm : sml t = true) (hnt : (namesT t).length < 400000) (hpr : keptB (bookD ds) [] t = true → pr t = true) (hty : (tyT t).length < 4294967295) (e0 : Addr)
    (w : World) (herr : w.cell? ⟨0, 0, none⟩ = some (errv e0)) (hnm : NumK w.heap.size w) (hK : DsAt (fun k => k < w.heap.size) w dsA ds) (hT : Ty.At (fun k => k < w.heap.size) w A t.ks) :
    Calls Tryz.prog 6 #[t.val A c, .slice dsA dn dsc] w fun e w' => e = .returned (.tuple #[.string (str (ansT (resT (bookD ds) dn t)).1), .int .i64 ((ansT (resT (bookD ds) dn t)).2 : Int)]) ∧ Below w.heap.size w w' := by
  have hTX := fun bm N W hb hk ht => text_any (bookD ds) N bm e0 dn hdx ⟨ds.map (·.nm), by rw [List.length_map, hdn]; exact Nat.le_refl _, fun x hx => by
    obtain ⟨d, hd⟩ := Option.isSome_iff_exists.1 hx
    obtain ⟨h1, h2, h3⟩ := bookD_in hd
    exact List.mem_map.2 ⟨d, h1, h3⟩⟩ (fun nm d hd => hD d (bookD_in hd).1 (bookD_in hd).2.1) t A c hnl hsm hnt hpr hty W hb hk ht
  obtain ⟨R, hR⟩ : ∃ r, resT (bookD ds) dn t = r := ⟨_, rfl⟩
  rw [hR] at hTX ⊢
  obtain ⟨k, nm, n, ks⟩ := t
  replace hT : Ty.At (fun k => k < w.heap.size) w A ks := hT
  obtain ⟨kl, hkl⟩ : ∃ kl, ks.length = kl := ⟨_, rfl⟩
  show Calls Tryz.prog 6 #[.agg #[.int .u8 (k : Int), .string (str nm), .int .i64 n, .slice A ks.length c], .slice dsA dn dsc] w fun e w' => e = .returned (.tuple #[.string (str (ansT R).1), .int .i64 ((ansT R).2 : Int)]) ∧ Below w.heap.size w w'
  change ∀ bm N W, Bk W bm N (bookD ds) e0 → (∀ nm d, bookD ds nm = some d → d.K (fun k => k < W.heap.size) W) → Ty.At (fun k => k < W.heap.size) W A ks → Calls Tryz.prog 12 #[.agg #[.map (some bm)], .agg #[.int .u8 (k : Int), .string (str nm), .int .i64 n, .slice A ks.length c]] W (fun e w' => e = .returned (resV e0 R) ∧ Below W.heap.size W w') at hTX
  rw [hkl] at hTX ⊢
  obtain ⟨q, hq⟩ : ∃ q, w.heap.size = q := ⟨_, rfl⟩
  obtain ⟨w1, hw1⟩ : ∃ W, w.alloc (.cells #[.int .u8 (k : Int), .string (str nm), .int .i64 n, .slice A kl c] 24) = W := ⟨_, rfl⟩
  have hb1 : Below w.heap.size w w1 := by rw [← hw1]; exact (Below.refl _ _).alloc (Nat.le_refl _) _
  have hB1 : Blk w1 w.heap.size 24 #[.int .u8 (k : Int), .string (str nm), .int .i64 n, .slice A kl c] := by rw [← hw1]; exact Blk.new _ _ _
  obtain ⟨w2, hw2⟩ : ∃ W, w1.alloc (.map #[] 0) = W := ⟨_, rfl⟩
  have hb2 : Below w1.heap.size w1 w2 := by rw [← hw2]; exact (Below.refl _ _).alloc (Nat.le_refl _) _
  have hm2 : SMap w2 w1.heap.size 0 (fun _ => none) := by rw [← hw2]; exact SMap.made w1
  have hn1 : w1.heap.size = q + 1 := by rw [← hw1, ← hq]; simp
  have hn2 : w2.heap.size = q + 2 := by rw [← hw2]; simp [hn1]
  obtain ⟨q1, hq1⟩ : ∃ z, q + 1 = z := ⟨_, rfl⟩
  obtain ⟨q2, hq2⟩ : ∃ z, q1 + 1 = z := ⟨_, rfl⟩
  rw [hq1] at hn1
  replace hn2 : w2.heap.size = q2 := by omega
  obtain ⟨w3, hw3⟩ : ∃ W, w2.alloc (.cells #[.map (some q1)] 49) = W := ⟨_, rfl⟩
  have hb3 : Below w2.heap.size w2 w3 := by rw [← hw3]; exact (Below.refl _ _).alloc (Nat.le_refl _) _
  have hB3 : Blk w3 w2.heap.size 49 #[.map (some q1)] := by rw [← hw3]; exact Blk.new _ _ _
  rw [hq] at hB1
  rw [hn1] at hm2
  rw [hn2] at hB3
  have h13 : Below w1.heap.size w1 w3 := hb2.trans (hb3.mono hb2.size)
  have h03 : Below w.heap.size w w3 := hb1.trans (h13.mono hb1.size)
  have hB13 := hB1.below h13 hB1.lt
  have hm3 : SMap w3 q1 0 (fun s => (bookD (ds.take 0) s).map Dc.val) := hm2.bel hb3
  have HX : Hid (∀ W, Off (fun k => k = q1) w3 W → W.cell? ⟨q, 0, none⟩ = some (.int .u8 (k : Int)) ∧ W.cell? ⟨q, 1, none⟩ = some (.string (str nm)) ∧ W.cell? ⟨q, 2, none⟩ = some (.int .i64 n) ∧ W.cell? ⟨q, 3, none⟩ = some (.slice A kl c) ∧ W.cell? ⟨q2, 0, none⟩ = some (.map (some q1)) ∧ W.cell? ⟨0, 0, none⟩ = some (.iface 161 (.pointer (some e0))) ∧ Ty.At (fun k => k < w.heap.size) W A ks ∧ DsAt (fun k => k < w.heap.size) W dsA ds ∧ Below w.heap.size w W) := Lib.hid fun W hW => by
    have h := hB13.off hW (by omega)
    have h3 := hB3.off hW (by omega)
    have h0 : Below w.heap.size w W := h03.trans (hW.below h03.size fun k e => by omega)
    exact ⟨h.cell 0, h.cell 1, h.cell 2, h.cell 3, h3.cell 0, (h0.cell (World.block_lt_of_cell? w _ herr)).trans herr, hT.bel h0, hK.off (Off.of_new h0 (fun k => ¬ (k < w.heap.size))) fun b h1 h2 => h2 h1, h0⟩
  have HTX := Lib.hid hTX
  have HNM := Lib.hid hnm
  clear hnm
  have HM := Lib.hid hm3
  have HDN := Lib.hid hdn
  have HW := Lib.hid (And.intro hw1 (And.intro hq (And.intro hw2 (And.intro hn1 (And.intro hq2 hw3)))))
  have hmm := @run_makeMap Tryz.prog
  clear herr hK hT hnl hsm hnt hpr hty hD hR hTX hkl hq hw1 hb1 hB1 hw2 hb2 hm2 hn1 hn2 hw3 hb3 hB3 h13 h03 hB13 hm3 hq1 hq2 hdn
  go_enter Tryz.func6, Tryz.ntmps6
  go_upto_region 1 with fail
  (try rw [HW.out.1])
  (try rw [HW.out.2.1])
  go_upto_region 2 with fail
  (try rw [HW.out.2.2.1])
  (try rw [HW.out.2.2.2.1])
  (try rw [HW.out.2.2.2.2.1])
  (try rw [HW.out.2.2.2.2.2])
  clear HW hmm
  go_wp2_with fail
  go_loopw [17] (fun v17 wr => ∃ (i N : Nat), i ≤ dn ∧ v17 = .int .i64 (i : Int) ∧ Hid (SMap wr q1 N (fun s => (bookD (ds.take i) s).map Dc.val) ∧ N ≤ i ∧ Off (fun k => k = q1) w3 wr)) (fun v17 _ => dn - (intOf v17).toNat)
  case atStart => exact ⟨0, 0, Nat.zero_le _, rfl, Lib.hid ⟨HM.out, Nat.zero_le _, Off.refl _ _⟩⟩
  case round =>
    obtain ⟨i, N, hi, rfl, HJ⟩ := hrel
    obtain ⟨w4, rfl⟩ : ∃ v, v = wr := ⟨_, rfl⟩
    by_cases hli : i < dn
    · have hd1 : decide ((i : Int) < (dn : Int)) = true := by simpa using hli
      obtain ⟨d, hdi⟩ : ∃ x, ds[i]? = some x := ⟨_, List.getElem?_eq_getElem (by rw [HDN.out]; exact hli)⟩
      obtain ⟨_, _, _, _, xb, _, _, hDs, _⟩ := HX.out w4 HJ.out.2.2
      obtain ⟨bd, od, ed, hXd, hld, hcells, _, hnl⟩ := hDs i d hdi
      subst ed
      have HNX := Lib.hid (bookD_next hdi)
      obtain ⟨D, hDe⟩ : ∃ D, bookD (ds.take i) = D := ⟨_, rfl⟩
      have hSM := HJ.out.1
      rw [hDe] at hSM
      obtain ⟨od2, hod⟩ : ∃ od2, D d.nm = od2 := ⟨_, rfl⟩
      have hlk : ∀ W, Below w4.heap.size w4 W → (Instr.lookup 47 (.map (some q1)) (.string (str d.nm)) true).run Tryz.prog W = .ok (.tuple #[(od2.getD zDc).val, .bool od2.isSome]) W := fun W hW => by
        have h := look_dec (D := D) (hSM.bel hW) d.nm hnl true
        rw [if_pos rfl, hod] at h
        exact h
      have HP1 : Hid (put1 D d = if od2.isSome = false ∧ d.k = 1 then fun s => if s = d.nm then some d else D s else D) := Lib.hid (by unfold put1; rw [hod])
      have hput : ∀ W, Below w4.heap.size w4 W → ∃ w', (Instr.mapUpdate 47 (.map (some q1)) (.string (str d.nm)) d.val).run Tryz.prog W = .ok () w' ∧ SMap w' q1 (N + 1) (fun s => (if s = d.nm then some d else D s).map Dc.val) ∧ Off (fun k => k = q1) W w' := fun W hW => by
        obtain ⟨w', h1, h2, h3⟩ := (hSM.bel hW).put Tryz.underlying47 d.nm hnl d.val (by have := HJ.out.2.1; omega)
        refine ⟨w', h1, ?_, h3⟩
        have e : (fun x => if x = d.nm then some d.val else (D x).map Dc.val) = fun s => (if s = d.nm then some d else D s).map Dc.val := by
          funext s
          by_cases e : s = d.nm
          · rw [if_pos e, if_pos e]; rfl
          · rw [if_neg e, if_neg e]
        rw [← e]; exact h2
      obtain ⟨e2, he2⟩ : ∃ e, od2.getD zDc = e := ⟨_, rfl⟩
      rw [he2] at hlk
      clear he2
      have HDE := Lib.hid hDe
      clear hDe hod
      obtain ⟨dk, dnm, dvs, dcs, dvA, dvc, dcA, dcc, fA, fl, fc, tk, ts, tn, tA, tl0, tc, ek, es, en, et, kA, kl0, kc, rA, rl, rc, dA, dl, dc⟩ := d
      obtain ⟨xdk, xdnm, xdvs, xdcs, xdvA, xdvc, xdcA, xdcc, xfA, xfl, xfc, xtk, xts, xtn, xtA, xtl0, xtc, xek, xes, xen, xet, xkA, xkl0, xkc, xrA, xrl, xrc, xdA, xdl, xdc⟩ := e2
      obtain ⟨vl, hvl⟩ : ∃ vl, dvs.length = vl := ⟨_, rfl⟩
      obtain ⟨cl, hcl⟩ : ∃ cl, dcs.length = cl := ⟨_, rfl⟩
      obtain ⟨xvl, hxvl⟩ : ∃ vl, xdvs.length = vl := ⟨_, rfl⟩
      obtain ⟨xcl, hxcl⟩ : ∃ cl, xdcs.length = cl := ⟨_, rfl⟩
      simp only [Dc.val] at hlk hput
      rw [hvl, hcl] at hput
      rw [hxvl, hxcl] at hlk
      have z0 := hcells 0 _ rfl
      have z1 := hcells 1 _ rfl
      have z2 := hcells 2 _ rfl
      have z3 := hcells 3 _ rfl
      have z4 := hcells 4 _ rfl
      have z5 := hcells 5 _ rfl
      have z6 := hcells 6 _ rfl
      have z7 := hcells 7 _ rfl
      have z8 := hcells 8 _ rfl
      have z9 := hcells 9 _ rfl
      have z10 := hcells 10 _ rfl
      have z11 := hcells 11 _ rfl
      have z12 := hcells 12 _ rfl
      have z13 := hcells 13 _ rfl
      have z14 := hcells 14 _ rfl
      have z15 := hcells 15 _ rfl
      rw [Nat.add_zero] at z0
      simp only [hvl] at z2
      simp only [hcl] at z3
      obtain ⟨w5, hw5⟩ : ∃ W, w4.alloc (.cells #[.int .u8 (dk : Int), .string (str dnm), .slice dvA vl dvc, .slice dcA cl dcc, .slice fA fl fc, .int .u8 tk, .string ts, .int .i64 tn, .slice tA tl0 tc, .int .u8 ek, .string es, .int .i64 en, .string et, .slice kA kl0 kc, .slice rA rl rc, .slice dA dl dc] 42) = W := ⟨_, rfl⟩
      have hb5 : Below w4.heap.size w4 w5 := by rw [← hw5]; exact (Below.refl _ _).alloc (Nat.le_refl _) _
      have hB5 : Blk w5 w4.heap.size 42 #[.int .u8 (dk : Int), .string (str dnm), .slice dvA vl dvc, .slice dcA cl dcc, .slice fA fl fc, .int .u8 tk, .string ts, .int .i64 tn, .slice tA tl0 tc, .int .u8 ek, .string es, .int .i64 en, .string et, .slice kA kl0 kc, .slice rA rl rc, .slice dA dl dc] := by rw [← hw5]; exact Blk.new _ _ _
      obtain ⟨w6, hw6⟩ : ∃ W, w5.alloc (.cells #[.int .u8 (xdk : Int), .string (str xdnm), .slice xdvA xvl xdvc, .slice xdcA xcl xdcc, .slice xfA xfl xfc, .int .u8 xtk, .string xts, .int .i64 xtn, .slice xtA xtl0 xtc, .int .u8 xek, .string xes, .int .i64 xen, .string xet, .slice xkA xkl0 xkc, .slice xrA xrl xrc, .slice xdA xdl xdc] 42) = W := ⟨_, rfl⟩
      have hb6 : Below w5.heap.size w5 w6 := by rw [← hw6]; exact (Below.refl _ _).alloc (Nat.le_refl _) _
      have h46 : Below w4.heap.size w4 w6 := hb5.trans (hb6.mono hb5.size)
      have hB6 := hB5.below hb6 hB5.lt
      obtain ⟨q5, hq5⟩ : ∃ x, w4.heap.size = x := ⟨_, rfl⟩
      rw [hq5] at hB5 hB6
      have hlk5 := hlk w5 hb5
      have xb5 : w5.cell? ⟨q2, 0, none⟩ = some (.map (some q1)) := (hb5.cell (World.block_lt_of_cell? _ _ xb)).trans xb
      have xb6 : w6.cell? ⟨q2, 0, none⟩ = some (.map (some q1)) := (h46.cell (World.block_lt_of_cell? _ _ xb)).trans xb
      have k51 : w5.cell? ⟨q5, 1, none⟩ = some (.string (str dnm)) := hB5.cell 1
      have hpu := hput w6 h46
      have HW5 := Lib.hid (And.intro hw5 (And.intro hq5 hw6))
      have HB6 := Lib.hid hB6
      have H46 := Lib.hid h46
      clear hdi hDs hXd hld hcells hnl hlk hput hw5 hb5 hB5 hw6 hb6 h46 hB6 hq5 hvl hcl hxvl hxcl hSM
      go_upto_region 5 with fail
      (try rw [HW5.out.1])
      (try rw [HW5.out.2.1])
      clear z0 z1 z2 z3 z4 z5 z6 z7 z8 z9 z10 z11 z12 z13 z14 z15
      go_upto_region 6 with fail
      (try rw [HW5.out.2.2])
      clear hlk5 xb xb5 k51
      cases od2 with
      | some d0 =>
        have HN : Hid (SMap w6 q1 N (fun s => (bookD (ds.take (i + 1)) s).map Dc.val) ∧ N ≤ i + 1 ∧ Off (fun k => k = q1) w3 w6) := Lib.hid ⟨by
          rw [HNX.out, HDE.out, HP1.out, if_neg (by simp), ← HDE.out]
          exact HJ.out.1.bel H46.out, by have := HJ.out.2.1; omega, HJ.out.2.2.trans (Off.of_new H46.out _)⟩
        have hs : (some d0 : Option Dc).isSome = true := rfl
        (try rw [hs])
        clear hpu HB6 H46 HNX HP1 HDE xb6
        go_wp2_with fail
        go_roundw
        case rel => exact ⟨i + 1, N, by omega, by go_num, HN⟩
        case measure => simp [intOf]; omega
      | none =>
        have hs : (none : Option Dc).isSome = false := rfl
        (try rw [hs])
        have g0 := HB6.out.cell 0
        simp only [List.getElem?_toArray, List.getElem?_cons_zero] at g0
        by_cases hk1 : dk = 1
        · have e1 : ((dk : Int) == 1) = true := by rw [hk1]; rfl
          obtain ⟨w7, hrun, hSM7, ho7⟩ := hpu
          have HN : Hid (SMap w7 q1 (N + 1) (fun s => (bookD (ds.take (i + 1)) s).map Dc.val) ∧ N + 1 ≤ i + 1 ∧ Off (fun k => k = q1) w3 w7) := Lib.hid ⟨by
            rw [HNX.out, HDE.out, HP1.out, if_pos ⟨rfl, hk1⟩]
            exact hSM7, by have := HJ.out.2.1; omega, HJ.out.2.2.trans ((Off.of_new H46.out _).trans ho7)⟩
          have g1 : w6.cell? ⟨q5, 1, none⟩ = some (.string (str dnm)) := HB6.out.cell 1
          have g2 : w6.cell? ⟨q5, 2, none⟩ = some (.slice dvA vl dvc) := HB6.out.cell 2
          have g3 : w6.cell? ⟨q5, 3, none⟩ = some (.slice dcA cl dcc) := HB6.out.cell 3
          have g4 : w6.cell? ⟨q5, 4, none⟩ = some (.slice fA fl fc) := HB6.out.cell 4
          have g5 : w6.cell? ⟨q5, 5, none⟩ = some (.int .u8 tk) := HB6.out.cell 5
          have g6 : w6.cell? ⟨q5, 6, none⟩ = some (.string ts) := HB6.out.cell 6
          have g7 : w6.cell? ⟨q5, 7, none⟩ = some (.int .i64 tn) := HB6.out.cell 7
          have g8 : w6.cell? ⟨q5, 8, none⟩ = some (.slice tA tl0 tc) := HB6.out.cell 8
          have g9 : w6.cell? ⟨q5, 9, none⟩ = some (.int .u8 ek) := HB6.out.cell 9
          have g10 : w6.cell? ⟨q5, 10, none⟩ = some (.string es) := HB6.out.cell 10
          have g11 : w6.cell? ⟨q5, 11, none⟩ = some (.int .i64 en) := HB6.out.cell 11
          have g12 : w6.cell? ⟨q5, 12, none⟩ = some (.string et) := HB6.out.cell 12
          have g13 : w6.cell? ⟨q5, 13, none⟩ = some (.slice kA kl0 kc) := HB6.out.cell 13
          have g14 : w6.cell? ⟨q5, 14, none⟩ = some (.slice rA rl rc) := HB6.out.cell 14
          have g15 : w6.cell? ⟨q5, 15, none⟩ = some (.slice dA dl dc) := HB6.out.cell 15
          clear hSM7 ho7 HB6 H46 HNX HP1 HDE hk1
          go_wp2_with fail
          go_roundw
          case rel => exact ⟨i + 1, N + 1, by omega, by go_num, HN⟩
          case measure => simp [intOf]; omega
        · have e1 : ((dk : Int) == 1) = false := by rw [beq_eq_false_iff_ne]; omega
          have HN : Hid (SMap w6 q1 N (fun s => (bookD (ds.take (i + 1)) s).map Dc.val) ∧ N ≤ i + 1 ∧ Off (fun k => k = q1) w3 w6) := Lib.hid ⟨by
            rw [HNX.out, HDE.out, HP1.out, if_neg (fun h => hk1 h.2), ← HDE.out]
            exact HJ.out.1.bel H46.out, by have := HJ.out.2.1; omega, HJ.out.2.2.trans (Off.of_new H46.out _)⟩
          clear hpu HB6 H46 HNX HP1 HDE xb6 hk1
          go_wp2_with fail
          go_roundw
          case rel => exact ⟨i + 1, N, by omega, by go_num, HN⟩
          case measure => simp [intOf]; omega
    · obtain rfl : dn = i := by omega
      have hd1 : decide ((dn : Int) < (dn : Int)) = false := by simp
      obtain ⟨x0, x1, x2, x3, xb, xe, hTw, hDs, h0w⟩ := HX.out w4 HJ.out.2.2
      have hfull : ds.take dn = ds := List.take_of_length_le (by rw [HDN.out]; exact Nat.le_refl _)
      have hSM := HJ.out.1
      rw [hfull] at hSM
      have HC := Lib.hid (HTX.out q1 N w4 ⟨hSM, xe, (HNM.out.bel h0w).up h0w.size⟩ (fun nm d hd => by
        obtain ⟨r, hr⟩ := List.getElem?_of_mem (bookD_in hd).1
        obtain ⟨_, _, _, _, _, _, hk, _⟩ := hDs r d hr
        exact hk.mono fun k h => Nat.lt_of_lt_of_le h h0w.size) (hTw.mono fun k h => Nat.lt_of_lt_of_le h h0w.size))
      have hgl := World.block_lt_of_cell? _ _ xe
      have HXE : Hid (∀ W, Below w4.heap.size w4 W → W.cell? ⟨0, 0, none⟩ = some (.iface 161 (.pointer (some e0)))) := Lib.hid fun W hW => (hW.cell (World.block_lt_of_cell? _ _ xe)).trans xe
      have H0 := Lib.hid h0w
      clear hTw hDs h0w hfull hSM hgl xe
      go_wp2_with fail
      refine HC.out.mono ?_
      rintro e w5 ⟨rfl, hb5⟩
      have xe := HXE.out w5 hb5
      have H5 := Lib.hid (H0.out.trans (hb5.mono H0.out.size))
      have hN := Lib.hid (is_nil e0 w5)
      have hS := Lib.hid (is_same e0 w5)
      clear hb5 x0 x1 x2 x3 xb HC HXE
      cases R with
      | none =>
        unfold resV errv
        go_wp2_with fail
        refine hS.out.mono ?_
        rintro e w6 ⟨rfl, rfl⟩
        clear hS hN xe
        go_wp2_with fail
        go_ret2
        exact ⟨rfl, H5.out⟩
      | some tx =>
        unfold resV
        have hsz : (str tx).size = tx.length := str_size tx
        by_cases h200 : 200 < tx.length
        · have hg : decide ((200 : Int) < (tx.length : Int)) = true := by simp; omega
          have hg2 : decide ((tx.length : Int) > 200) = true := by simp; omega
          have HA : Hid (ansT (some tx) = ([], 16)) := Lib.hid (by simp only [ansT]; rw [if_pos h200])
          clear h200
          go_wp2_with fail
          refine hN.out.mono ?_
          rintro e w6 ⟨rfl, rfl⟩
          clear hS hN xe
          go_wp2_with fail
          go_ret2
          exact ⟨by rw [HA.out] <;> rfl, H5.out⟩
        · have hg : decide ((200 : Int) < (tx.length : Int)) = false := by simp; omega
          have hg2 : decide ((tx.length : Int) > 200) = false := by simp; omega
          have HA : Hid (ansT (some tx) = (tx, 0)) := Lib.hid (by simp only [ansT]; rw [if_neg h200])
          clear h200
          go_wp2_with fail
          refine hN.out.mono ?_
          rintro e w6 ⟨rfl, rfl⟩
          clear hS hN xe
          go_wp2_with fail
          go_ret2
          exact ⟨by rw [HA.out] <;> rfl, H5.out⟩
end Go.Proofs.YtadogebhkldeiaaGreatDoor
