/- stamp, numbers too: kept. -/
import Derived.Test.YtadogebhkldeiaaGreatDoorZN
import Derived.Stop.IfaceNil
namespace Go.Proofs.YtadogebhkldeiaaGreatDoor
open Go.RowKit Ty
set_option linter.unusedVariables false
set_option linter.unusedSimpArgs false
attribute [local go_sem] Oper.semAt_some
/-- How many others a type of some name asks for. -/
def ar (D : List UInt8 → Option Dc) (nm : List UInt8) : Option Nat := if (ownN nm).2 then some (ownN nm).1 else (D nm).map fun d => d.vs.length
def hdK (D : List UInt8 → Option Dc) (k : Nat) (nm : List UInt8) (l : Nat) : Bool := if k = 4 then decide (2 ≤ l) else if k = 2 then decide (ar D nm = some l) else false
mutual
/-- A type that may be kept, of some variables. -/
def keptB (D : List UInt8 → Option Dc) (vs : List (List UInt8)) : Ty → Bool
  | .node k nm _ ks => if k = 1 then decide (nm ∈ vs) else hdK D k nm ks.length && keptBs D vs ks
def keptBs (D : List UInt8 → Option Dc) (vs : List (List UInt8)) : List Ty → Bool
  | [] => true
  | t :: ts => keptB D vs t && keptBs D vs ts
end
theorem keptB_eq (D : List UInt8 → Option Dc) (vs : List (List UInt8)) (k : Nat) (nm : List UInt8) (n : Int) (ks : List Ty) : keptB D vs (.node k nm n ks) = if k = 1 then decide (nm ∈ vs) else hdK D k nm ks.length && keptBs D vs ks := by rw [keptB]
theorem keptBs_app (D : List UInt8 → Option Dc) (vs : List (List UInt8)) : ∀ a b : List Ty, keptBs D vs (a ++ b) = (keptBs D vs a && keptBs D vs b)
  | [], b => by rw [List.nil_append, keptBs, Bool.true_and]
  | t :: a, b => by rw [List.cons_append, keptBs, keptBs, keptBs_app D vs a b, Bool.and_assoc]
theorem keptBs_next {D : List UInt8 → Option Dc} {vs : List (List UInt8)} {ts : List Ty} {i : Nat} {t : Ty} (h : ts[i]? = some t) : keptBs D vs (ts.take (i + 1)) = (keptBs D vs (ts.take i) && keptB D vs t) := by
  rw [List.take_add_one, h, keptBs_app]
  show (_ && keptBs D vs [t]) = _
  rw [keptBs, keptBs, Bool.and_true]
theorem keptBs_mem {D : List UInt8 → Option Dc} {vs : List (List UInt8)} : ∀ {ts : List Ty} {t : Ty}, t ∈ ts → keptB D vs t = false → keptBs D vs ts = false
  | u :: ts, t, hm, h => by
    rw [keptBs]
    rcases List.mem_cons.1 hm with rfl | hm
    · rw [h]; rfl
    · rw [keptBs_mem hm h, Bool.and_false]
/-- No declaration at all. -/
def zRst : Rst := ⟨none, 0, 0, 0, ⟨#[]⟩, 0, none, 0, 0, 0, ⟨#[]⟩, 0, ⟨#[]⟩, none, 0, 0, none, 0, 0, none, 0, 0⟩
def zDc : Dc := ⟨0, [], [], [], none, 0, none, 0, zRst⟩
theorem zero_dec (w : World) : (zeroValue 42).run Tryz.prog w = .ok zDc.val w := by kernel_rfl
theorem look_dec {w : World} {b n : Nat} {D : List UInt8 → Option Dc} (h : SMap w b n fun s => (D s).map Dc.val) (s : List UInt8) (hs : s.length ≤ maxLen) (c : Bool) :
    (Instr.lookup 47 (.map (some b)) (.string (str s)) c).run Tryz.prog w = .ok (if c then .tuple #[((D s).getD zDc).val, .bool (D s).isSome] else ((D s).getD zDc).val) w := by
  rw [h.look Tryz.underlying47 (zero_dec w) c s hs]
  cases D s <;> rfl
def errv (e0 : Addr) : Value := .iface 161 (.pointer (some e0))
/-- The book, the sentinel. -/
structure Bk (w : World) (bm N : Nat) (D : List UInt8 → Option Dc) (e0 : Addr) : Prop where
  map : SMap w bm N fun s => (D s).map Dc.val
  err : w.cell? ⟨0, 0, none⟩ = some (errv e0)
  num : NumK w.heap.size w
theorem Bk.bel {w w' : World} {bm N : Nat} {D : List UInt8 → Option Dc} {e0 : Addr} (h : Bk w bm N D e0) (hb : Below w.heap.size w w') : Bk w' bm N D e0 := ⟨h.map.bel hb, (hb.cell (World.block_lt_of_cell? w _ h.err)).trans h.err, (h.num.bel hb).up hb.size⟩
theorem isIfaceErr : Tryz.prog.isIface 52 = true := by kernel_rfl
set_option maxRecDepth 100000 in
set_option maxHeartbeats 8000000 in
theorem kept_any (bm N : Nat) (D : List UInt8 → Option Dc) (e0 : Addr) (vs : List (List UInt8)) (vA : Option Addr) (vn vc : Nat) (hvn : vs.length = vn) (hvx : vn ≤ 9223372036854775807) : ∀ (t : Ty) (A : Option Addr) (c : Nat) (w : World), t.nm.length ≤ maxLen → t.ks.length ≤ maxLen → Bk w bm N D e0 → SsAt (fun k => k < w.heap.size) w vA vs → Ty.At (fun k => k < w.heap.size) w A t.ks →
    Calls Tryz.prog 20 #[.agg #[.map (some bm)], t.val A c, .slice vA vn vc] w fun e w' => e = .returned (if keptB D vs t = true then .nilIface else errv e0) ∧ Below w.heap.size w w' := Ty.ind fun k nm n ks ih A c w hnl hkm hbk hss hT => by
  have hT : Ty.At (fun k => k < w.heap.size) w A ks := hT
  have hnl : nm.length ≤ maxLen := hnl
  have hke := keptB_eq D vs k nm n ks
  obtain ⟨kl, hkl⟩ : ∃ kl, ks.length = kl := ⟨_, rfl⟩
  rw [hkl] at hke
  have hkx : kl ≤ 9223372036854775807 := by
    have h : ks.length ≤ maxLen := hkm
    rw [hkl] at h
    unfold maxLen at h
    omega
  show Calls Tryz.prog 20 #[.agg #[.map (some bm)], .agg #[.int .u8 (k : Int), .string (str nm), .int .i64 n, .slice A ks.length c], .slice vA vn vc] w fun e w' => e = .returned (if keptB D vs (.node k nm n ks) = true then .nilIface else errv e0) ∧ Below w.heap.size w w'
  rw [hkl]
  obtain ⟨w0, hw0⟩ : ∃ W, w.alloc (.cells #[.map (some bm)] 49) = W := ⟨_, rfl⟩
  have hb0 : Below w.heap.size w w0 := by rw [← hw0]; exact (Below.refl _ _).alloc (Nat.le_refl _) _
  have hB0 : Blk w0 w.heap.size 49 #[.map (some bm)] := by rw [← hw0]; exact Blk.new _ _ _
  obtain ⟨w1, hw1⟩ : ∃ W, w0.alloc (.cells #[.int .u8 (k : Int), .string (str nm), .int .i64 n, .slice A kl c] 24) = W := ⟨_, rfl⟩
  have hb1 : Below w0.heap.size w0 w1 := by rw [← hw1]; exact (Below.refl _ _).alloc (Nat.le_refl _) _
  have hB1 : Blk w1 w0.heap.size 24 #[.int .u8 (k : Int), .string (str nm), .int .i64 n, .slice A kl c] := by rw [← hw1]; exact Blk.new _ _ _
  have h01 : Below w.heap.size w w1 := hb0.trans (hb1.mono hb0.size)
  have hn0 : w0.heap.size = w.heap.size + 1 := by rw [← hw0]; simp
  obtain ⟨q, hq⟩ : ∃ q, w.heap.size = q := ⟨_, rfl⟩
  obtain ⟨p, hp⟩ : ∃ p, q + 1 = p := ⟨_, rfl⟩
  rw [hq, hp] at hn0
  have hB01 := hB0.below hb1 hB0.lt
  rw [hq] at hB01
  rw [hn0] at hB1
  have HX : Hid (∀ W, Below w1.heap.size w1 W → W.cell? ⟨p, 0, none⟩ = some (.int .u8 (k : Int)) ∧ W.cell? ⟨p, 1, none⟩ = some (.string (str nm)) ∧ W.cell? ⟨p, 2, none⟩ = some (.int .i64 n) ∧ W.cell? ⟨p, 3, none⟩ = some (.slice A kl c) ∧ W.cell? ⟨q, 0, none⟩ = some (.map (some bm)) ∧ W.cell? ⟨0, 0, none⟩ = some (.iface 161 (.pointer (some e0))) ∧ Bk W bm N D e0 ∧ SsAt (fun k => k < W.heap.size) W vA vs ∧ Ty.At (fun k => k < w1.heap.size) W A ks) := Lib.hid fun W hW => by
    have h := hB1.below hW hB1.lt
    have h2 := hB01.below hW hB01.lt
    have h0 : Below w.heap.size w W := h01.trans (hW.mono h01.size)
    exact ⟨h.cell 0, h.cell 1, h.cell 2, h.cell 3, h2.cell 0, (hbk.bel h0).err, hbk.bel h0, (hss.off (Off.of_new h0 (fun k => ¬ (k < w.heap.size))) fun b h1 h2 => h2 h1).mono fun k h1 => Nat.lt_of_lt_of_le h1 h0.size, (hT.bel h0).mono fun k h1 => Nat.lt_of_lt_of_le h1 h01.size⟩
  obtain ⟨rv, hrv⟩ : ∃ v, (if keptB D vs (.node k nm n ks) = true then Value.nilIface else errv e0) = v := ⟨_, rfl⟩
  rw [hrv]
  obtain ⟨kb, hkb⟩ : ∃ b, keptB D vs (.node k nm n ks) = b := ⟨_, rfl⟩
  rw [hkb] at hke
  have HR : Hid ((kb = true → rv = .nilIface) ∧ (kb = false → rv = errv e0) ∧ (∀ W, Below w1.heap.size w1 W → Below w.heap.size w W)) := Lib.hid ⟨fun h => by rw [← hrv, hkb, h]; rfl, fun h => by rw [← hrv, hkb, h]; rfl, fun W hW => h01.trans (hW.mono h01.size)⟩
  have HKE := Lib.hid hke
  have HI := Lib.hid (And.intro hkl (fun x hx => ih x hx))
  have HW := Lib.hid (And.intro hw0 (And.intro hw1 (And.intro hq hp)))
  obtain ⟨x0, x1, x2, x3, xb, xe, hbk1, hss1, _⟩ := HX.out w1 (Below.refl _ _)
  have HB1 := Lib.hid (And.intro hbk1 (And.intro hss1 (And.intro hvn (And.intro hvx hnl))))
  have hif := isIfaceErr
  clear hT hnl hkm hke hkb hrv hw0 hb0 hB0 hw1 hb1 hB1 h01 hn0 hB01 hbk1 hss1 hss hbk hkl ih hvn hvx hq hp
  go_enter Tryz.func20, Tryz.ntmps20
  go_upto_region 1 with fail
  (try rw [HW.out.1])
  (try rw [HW.out.2.1])
  (try rw [HW.out.2.2.1])
  (try rw [HW.out.2.2.2])
  by_cases h1 : k = 1
  · have e1 : ((k : Int) == 1) = true := by rw [h1]; rfl
    have HC := Lib.hid (contains_any _ vs nm vA vn vc w1 HB1.out.2.1 HB1.out.2.2.1 HB1.out.2.2.2.1)
    obtain ⟨b, hb⟩ : ∃ b, decide (nm ∈ vs) = b := ⟨_, rfl⟩
    rw [hb] at HC
    have HKB : Hid (kb = b) := Lib.hid (by rw [HKE.out, if_pos h1, hb])
    have HBW := Lib.hid (HR.out.2.2 _ (Below.refl _ _))
    clear hb h1
    go_wp2_with fail
    refine HC.out.mono ?_
    rintro e w4 ⟨rfl, rfl⟩
    clear HC
    cases b with
    | true =>
      go_wp2_with fail
      go_ret
      exact ⟨by rw [HR.out.1 HKB.out] <;> rfl, HBW.out⟩
    | false =>
      go_wp2_with fail
      go_ret
      exact ⟨by rw [HR.out.2.1 HKB.out] <;> rfl, HBW.out⟩
  · have e1 : ((k : Int) == 1) = false := by rw [beq_eq_false_iff_ne]; omega
    have HKH : Hid (kb = (hdK D k nm kl && keptBs D vs ks)) := Lib.hid (by rw [HKE.out, if_neg h1])
    by_cases h4 : k = 4
    · have e4 : ((k : Int) == 4) = true := by rw [h4]; rfl
      by_cases hl2 : kl < 2
      · have hd2 : decide ((kl : Int) < 2) = true := by simp; omega
        have HP : Hid (rv = errv e0 ∧ Below w.heap.size w w1) := Lib.hid ⟨HR.out.2.1 (by rw [HKH.out]; unfold hdK; rw [if_pos h4, decide_eq_false (by omega)]; rfl), HR.out.2.2 _ (Below.refl _ _)⟩
        clear h1 h4
        go_wp2_with fail
        go_ret
        exact ⟨by rw [HP.out.1] <;> rfl, HP.out.2⟩
      · have hd2 : decide ((kl : Int) < 2) = false := by simp; omega
        have HL : Hid (Below w1.heap.size w1 w1 ∧ kb = (true && keptBs D vs ks)) := Lib.hid ⟨Below.refl _ _, by rw [HKH.out]; unfold hdK; rw [if_pos h4, decide_eq_true (by omega)]⟩
        clear h1 h4
        go_wp2_with fail
        go_loopw [65] (fun v65 wr => ∃ (i : Nat), i ≤ kl ∧ v65 = .int .i64 (i : Int) ∧ Hid (Below w1.heap.size w1 wr ∧ keptBs D vs (ks.take i) = true)) (fun v65 _ => kl - (intOf v65).toNat)
        case atStart => exact ⟨0, Nat.zero_le _, rfl, Lib.hid ⟨HL.out.1, by rw [List.take_zero, keptBs]⟩⟩
        case round =>
          obtain ⟨i, hi, rfl, HJ⟩ := hrel
          clear x0 x1 x2 x3 xb xe
          by_cases hli : i < kl
          · have hd : decide ((i : Int) < (kl : Int)) = true := by simpa using hli
            obtain ⟨t, ht⟩ : ∃ t, ks[i]? = some t := ⟨_, List.getElem?_eq_getElem (by rw [HI.out.1]; exact hli)⟩
            obtain ⟨ba, oa, A', c', rfl, _, _, z0, z1, z2, z3, hok, hlc, hcm, hKt⟩ := (HX.out wr HJ.out.1).2.2.2.2.2.2.2.2.get ht
            obtain ⟨tl, htl⟩ : ∃ tl, t.ks.length = tl := ⟨_, rfl⟩
            rw [htl] at z3
            obtain ⟨w3, hw3⟩ : ∃ W, wr.alloc (.cells #[.int .u8 (t.k : Int), .string (str t.nm), .int .i64 t.n, .slice A' tl c'] 24) = W := ⟨_, rfl⟩
            have hb3 : Below wr.heap.size wr w3 := by rw [← hw3]; exact (Below.refl _ _).alloc (Nat.le_refl _) _
            have hB3 : Blk w3 wr.heap.size 24 #[.int .u8 (t.k : Int), .string (str t.nm), .int .i64 t.n, .slice A' tl c'] := by rw [← hw3]; exact Blk.new _ _ _
            have h13 : Below w1.heap.size w1 w3 := HJ.out.1.trans (hb3.mono HJ.out.1.size)
            obtain ⟨q3, hq3⟩ : ∃ q, wr.heap.size = q := ⟨_, rfl⟩
            rw [hq3] at hB3
            have y0 : w3.cell? ⟨q3, 0, none⟩ = some (.int .u8 (t.k : Int)) := hB3.cell 0
            have y1 : w3.cell? ⟨q3, 1, none⟩ = some (.string (str t.nm)) := hB3.cell 1
            have y2 : w3.cell? ⟨q3, 2, none⟩ = some (.int .i64 t.n) := hB3.cell 2
            have y3 : w3.cell? ⟨q3, 3, none⟩ = some (.slice A' tl c') := hB3.cell 3
            obtain ⟨_, _, _, _, xb, xe, hbk, hss, _⟩ := HX.out w3 h13
            obtain ⟨b, hb⟩ : ∃ b, keptB D vs t = b := ⟨_, rfl⟩
            have hC := HI.out.2 t (List.mem_of_getElem? ht) A' c' w3 hok.2.2 (Nat.le_trans hlc hcm) hbk hss (hKt.bel hb3 |>.mono fun k h => Nat.lt_of_lt_of_le h (Nat.le_trans HJ.out.1.size hb3.size))
            unfold Ty.val at hC
            rw [htl, hb] at hC
            obtain ⟨ev, hev⟩ : ∃ v, (if b = true then Value.nilIface else errv e0) = v := ⟨_, rfl⟩
            rw [hev] at hC
            have HC := Lib.hid hC
            have HEV := Lib.hid hev
            have HNX := Lib.hid (keptBs_next (D := D) (vs := vs) ht)
            have HBM := Lib.hid (And.intro hb (List.mem_of_getElem? ht))
            have HO3 := Lib.hid (And.intro h13 (And.intro hw3 hq3))
            clear hC h13 hw3 hq3 hB3 hb3 hok hlc hcm hKt ht htl hbk hss hb hev
            go_upto_region 22 with fail
            (try rw [HO3.out.2.1])
            (try rw [HO3.out.2.2])
            cases b with
            | true =>
              go_wp2_with fail
              refine HC.out.mono ?_
              rintro e w4 ⟨rfl, h4⟩
              obtain rfl : Value.nilIface = ev := by simpa using HEV.out
              have HN : Hid (Below w1.heap.size w1 w4 ∧ keptBs D vs (ks.take (i + 1)) = true) := Lib.hid ⟨HO3.out.1.trans (h4.mono HO3.out.1.size), by rw [HNX.out, HJ.out.2, HBM.out.1]; rfl⟩
              clear h4 y0 y1 y2 y3 z0 z1 z2 z3 HC HNX HO3 HBM xb xe HEV
              go_wp2_with fail
              go_roundw
              case rel => exact ⟨i + 1, by omega, by go_num, HN⟩
              case measure => simp [intOf]; omega
            | false =>
              go_wp2_with fail
              refine HC.out.mono ?_
              rintro e w4 ⟨rfl, h4⟩
              obtain rfl : Value.iface 161 (.pointer (some e0)) = ev := by simpa [errv] using HEV.out
              have HN : Hid (rv = errv e0 ∧ Below w.heap.size w w4) := Lib.hid ⟨HR.out.2.1 (by rw [HL.out.2, Bool.and_eq_false_iff]; exact .inr (keptBs_mem HBM.out.2 HBM.out.1)), HR.out.2.2 w4 (HO3.out.1.trans (h4.mono HO3.out.1.size))⟩
              clear h4 y0 y1 y2 y3 z0 z1 z2 z3 HC HNX HO3 HBM xb xe HEV
              go_wp2_with fail
              go_ret
              exact ⟨by rw [HN.out.1] <;> rfl, HN.out.2⟩
          · obtain rfl : kl = i := by omega
            have hd : decide ((kl : Int) < (kl : Int)) = false := by simp
            have HP : Hid (rv = .nilIface ∧ Below w.heap.size w wr) := Lib.hid ⟨HR.out.1 (by rw [HL.out.2, Bool.true_and]; have := HJ.out.2; rw [List.take_of_length_le (by rw [HI.out.1]; exact Nat.le_refl _)] at this; exact this), HR.out.2.2 wr HJ.out.1⟩
            go_wp2_with fail
            go_ret
            exact ⟨by rw [HP.out.1] <;> rfl, HP.out.2⟩
    · have e4 : ((k : Int) == 4) = false := by rw [beq_eq_false_iff_ne]; omega
      by_cases h2 : k = 2
      · have e2 : ((k : Int) == 2) = true := by rw [h2]; rfl
        have HO := Lib.hid (own_any nm w1)
        obtain ⟨on, ob, hob⟩ : ∃ a b, ownN nm = (a, b) := ⟨_, _, rfl⟩
        rw [hob] at HO
        have HH : Hid (hdK D k nm kl = decide (ar D nm = some kl)) := Lib.hid (by unfold hdK; rw [if_neg h4, if_pos h2])
        have HOB := Lib.hid hob
        clear h1 h4 h2 hob
        cases ob with
        | true =>
          by_cases hln : kl = on
          · have hne : ((kl : Int) != (on : Int)) = false := by rw [hln]; simp
            have HL : Hid (Below w1.heap.size w1 w1 ∧ kb = (true && keptBs D vs ks)) := Lib.hid ⟨Below.refl _ _, by rw [HKH.out, HH.out]; unfold ar; rw [HOB.out, if_pos rfl, hln]; simp⟩
            clear hln
            go_wp2_with fail
            refine HO.out.mono ?_
            rintro e w4 ⟨rfl, rfl⟩
            clear HO HH HOB HKH
            go_wp2_with fail
            go_loopw [65] (fun v65 wr => ∃ (i : Nat), i ≤ kl ∧ v65 = .int .i64 (i : Int) ∧ Hid (Below w1.heap.size w1 wr ∧ keptBs D vs (ks.take i) = true)) (fun v65 _ => kl - (intOf v65).toNat)
            case atStart => exact ⟨0, Nat.zero_le _, rfl, Lib.hid ⟨HL.out.1, by rw [List.take_zero, keptBs]⟩⟩
            case round =>
              obtain ⟨i, hi, rfl, HJ⟩ := hrel
              clear x0 x1 x2 x3 xb xe
              by_cases hli : i < kl
              · have hd : decide ((i : Int) < (kl : Int)) = true := by simpa using hli
                obtain ⟨t, ht⟩ : ∃ t, ks[i]? = some t := ⟨_, List.getElem?_eq_getElem (by rw [HI.out.1]; exact hli)⟩
                obtain ⟨ba, oa, A', c', rfl, _, _, z0, z1, z2, z3, hok, hlc, hcm, hKt⟩ := (HX.out wr HJ.out.1).2.2.2.2.2.2.2.2.get ht
                obtain ⟨tl, htl⟩ : ∃ tl, t.ks.length = tl := ⟨_, rfl⟩
                rw [htl] at z3
                obtain ⟨w3, hw3⟩ : ∃ W, wr.alloc (.cells #[.int .u8 (t.k : Int), .string (str t.nm), .int .i64 t.n, .slice A' tl c'] 24) = W := ⟨_, rfl⟩
                have hb3 : Below wr.heap.size wr w3 := by rw [← hw3]; exact (Below.refl _ _).alloc (Nat.le_refl _) _
                have hB3 : Blk w3 wr.heap.size 24 #[.int .u8 (t.k : Int), .string (str t.nm), .int .i64 t.n, .slice A' tl c'] := by rw [← hw3]; exact Blk.new _ _ _
                have h13 : Below w1.heap.size w1 w3 := HJ.out.1.trans (hb3.mono HJ.out.1.size)
                obtain ⟨q3, hq3⟩ : ∃ q, wr.heap.size = q := ⟨_, rfl⟩
                rw [hq3] at hB3
                have y0 : w3.cell? ⟨q3, 0, none⟩ = some (.int .u8 (t.k : Int)) := hB3.cell 0
                have y1 : w3.cell? ⟨q3, 1, none⟩ = some (.string (str t.nm)) := hB3.cell 1
                have y2 : w3.cell? ⟨q3, 2, none⟩ = some (.int .i64 t.n) := hB3.cell 2
                have y3 : w3.cell? ⟨q3, 3, none⟩ = some (.slice A' tl c') := hB3.cell 3
                obtain ⟨_, _, _, _, xb, xe, hbk, hss, _⟩ := HX.out w3 h13
                obtain ⟨b, hb⟩ : ∃ b, keptB D vs t = b := ⟨_, rfl⟩
                have hC := HI.out.2 t (List.mem_of_getElem? ht) A' c' w3 hok.2.2 (Nat.le_trans hlc hcm) hbk hss (hKt.bel hb3 |>.mono fun k h => Nat.lt_of_lt_of_le h (Nat.le_trans HJ.out.1.size hb3.size))
                unfold Ty.val at hC
                rw [htl, hb] at hC
                obtain ⟨ev, hev⟩ : ∃ v, (if b = true then Value.nilIface else errv e0) = v := ⟨_, rfl⟩
                rw [hev] at hC
                have HC := Lib.hid hC
                have HEV := Lib.hid hev
                have HNX := Lib.hid (keptBs_next (D := D) (vs := vs) ht)
                have HBM := Lib.hid (And.intro hb (List.mem_of_getElem? ht))
                have HO3 := Lib.hid (And.intro h13 (And.intro hw3 hq3))
                clear hC h13 hw3 hq3 hB3 hb3 hok hlc hcm hKt ht htl hbk hss hb hev
                go_upto_region 22 with fail
                (try rw [HO3.out.2.1])
                (try rw [HO3.out.2.2])
                cases b with
                | true =>
                  go_wp2_with fail
                  refine HC.out.mono ?_
                  rintro e w4 ⟨rfl, h4⟩
                  obtain rfl : Value.nilIface = ev := by simpa using HEV.out
                  have HN : Hid (Below w1.heap.size w1 w4 ∧ keptBs D vs (ks.take (i + 1)) = true) := Lib.hid ⟨HO3.out.1.trans (h4.mono HO3.out.1.size), by rw [HNX.out, HJ.out.2, HBM.out.1]; rfl⟩
                  clear h4 y0 y1 y2 y3 z0 z1 z2 z3 HC HNX HO3 HBM xb xe HEV
                  go_wp2_with fail
                  go_roundw
                  case rel => exact ⟨i + 1, by omega, by go_num, HN⟩
                  case measure => simp [intOf]; omega
                | false =>
                  go_wp2_with fail
                  refine HC.out.mono ?_
                  rintro e w4 ⟨rfl, h4⟩
                  obtain rfl : Value.iface 161 (.pointer (some e0)) = ev := by simpa [errv] using HEV.out
                  have HN : Hid (rv = errv e0 ∧ Below w.heap.size w w4) := Lib.hid ⟨HR.out.2.1 (by rw [HL.out.2, Bool.and_eq_false_iff]; exact .inr (keptBs_mem HBM.out.2 HBM.out.1)), HR.out.2.2 w4 (HO3.out.1.trans (h4.mono HO3.out.1.size))⟩
                  clear h4 y0 y1 y2 y3 z0 z1 z2 z3 HC HNX HO3 HBM xb xe HEV
                  go_wp2_with fail
                  go_ret
                  exact ⟨by rw [HN.out.1] <;> rfl, HN.out.2⟩
              · obtain rfl : kl = i := by omega
                have hd : decide ((kl : Int) < (kl : Int)) = false := by simp
                have HP : Hid (rv = .nilIface ∧ Below w.heap.size w wr) := Lib.hid ⟨HR.out.1 (by rw [HL.out.2, Bool.true_and]; have := HJ.out.2; rw [List.take_of_length_le (by rw [HI.out.1]; exact Nat.le_refl _)] at this; exact this), HR.out.2.2 wr HJ.out.1⟩
                go_wp2_with fail
                go_ret
                exact ⟨by rw [HP.out.1] <;> rfl, HP.out.2⟩
          · have hne : ((kl : Int) != (on : Int)) = true := by simp; omega
            have HP : Hid (rv = errv e0 ∧ Below w.heap.size w w1) := Lib.hid ⟨HR.out.2.1 (by rw [HKH.out, HH.out]; unfold ar; rw [HOB.out, if_pos rfl, decide_eq_false (by intro h; injection h with h; exact hln h.symm)]; rfl), HR.out.2.2 _ (Below.refl _ _)⟩
            go_wp2_with fail
            refine HO.out.mono ?_
            rintro e w4 ⟨rfl, rfl⟩
            clear HO HH HOB HKH hln
            go_wp2_with fail
            go_ret
            exact ⟨by rw [HP.out.1] <;> rfl, HP.out.2⟩
        | false =>
          have hlk := look_dec HB1.out.1.map nm HB1.out.2.2.2.2 true
          rw [if_pos rfl] at hlk
          have HA : Hid (ar D nm = (D nm).map fun d => d.vs.length) := Lib.hid (by unfold ar; rw [HOB.out]; rfl)
          obtain ⟨od, hod⟩ : ∃ od, D nm = od := ⟨_, rfl⟩
          rw [hod] at hlk HA
          clear hod HOB
          obtain ⟨d, hd⟩ : ∃ d, od.getD zDc = d := ⟨_, rfl⟩
          rw [hd] at hlk
          have HD := Lib.hid hd
          clear hd
          obtain ⟨dk, dnm, dvs, dcs, dvA, dvc, dcA, dcc, fA, fl, fc, tk, ts, tn, tA, tl0, tc, ek, es, en, et, kA, kl0, kc, rA, rl, rc, dA, dl, dc⟩ := d
          obtain ⟨vl, hvl⟩ : ∃ vl, dvs.length = vl := ⟨_, rfl⟩
          obtain ⟨cl, hcl⟩ : ∃ cl, dcs.length = cl := ⟨_, rfl⟩
          simp only [Dc.val] at hlk
          rw [hvl, hcl] at hlk
          have HVL := Lib.hid hvl
          clear hvl hcl
          obtain ⟨w5, hw5⟩ : ∃ W, w1.alloc (.cells #[.int .u8 (dk : Int), .string (str dnm), .slice dvA vl dvc, .slice dcA cl dcc, .slice fA fl fc, .int .u8 tk, .string ts, .int .i64 tn, .slice tA tl0 tc, .int .u8 ek, .string es, .int .i64 en, .string et, .slice kA kl0 kc, .slice rA rl rc, .slice dA dl dc] 42) = W := ⟨_, rfl⟩
          have hb5 : Below w1.heap.size w1 w5 := by rw [← hw5]; exact (Below.refl _ _).alloc (Nat.le_refl _) _
          have hB5 : Blk w5 w1.heap.size 42 #[.int .u8 (dk : Int), .string (str dnm), .slice dvA vl dvc, .slice dcA cl dcc, .slice fA fl fc, .int .u8 tk, .string ts, .int .i64 tn, .slice tA tl0 tc, .int .u8 ek, .string es, .int .i64 en, .string et, .slice kA kl0 kc, .slice rA rl rc, .slice dA dl dc] := by rw [← hw5]; exact Blk.new _ _ _
          obtain ⟨q5, hq5⟩ : ∃ q, w1.heap.size = q := ⟨_, rfl⟩
          rw [hq5] at hB5
          have d2 : w5.cell? ⟨q5, 2, none⟩ = some (.slice dvA vl dvc) := hB5.cell 2
          have H5 := Lib.hid (And.intro hb5 (And.intro hw5 hq5))
          clear hb5 hB5 hw5 hq5
          go_wp2_with fail
          refine HO.out.mono ?_
          rintro e w4 ⟨rfl, rfl⟩
          clear HO
          cases od with
          | none =>
            have HP : Hid (rv = errv e0 ∧ Below w.heap.size w w5) := Lib.hid ⟨HR.out.2.1 (by rw [HKH.out, HH.out, HA.out]; rfl), HR.out.2.2 _ H5.out.1⟩
            obtain ⟨_, _, _, _, _, ye, _, _, _⟩ := HX.out w5 H5.out.1
            have hsn : (none : Option Dc).isSome = false := rfl
            rw [hsn] at hlk
            clear HX HI HB1 HKH HH HA HD HVL
            go_upto_region 14 with fail
            (try rw [H5.out.2.1])
            (try rw [H5.out.2.2])
            clear hlk
            go_wp2_with fail
            go_ret
            exact ⟨by rw [HP.out.1] <;> rfl, HP.out.2⟩
          | some d0 =>
            obtain ⟨y0, y1, y2, y3, yb, ye, _, _, _⟩ := HX.out w5 H5.out.1
            have hsn : (some d0 : Option Dc).isSome = true := rfl
            rw [hsn] at hlk
            have HV : Hid (d0.vs.length = vl) := Lib.hid (by have := HD.out; simp only [Option.getD_some] at this; rw [this]; exact HVL.out)
            go_upto_region 14 with fail
            (try rw [H5.out.2.1])
            (try rw [H5.out.2.2])
            clear hlk HD HVL
            by_cases hln : kl = vl
            · have hne : ((kl : Int) != (vl : Int)) = false := by rw [hln]; simp
              have HL : Hid (Below w1.heap.size w1 w5 ∧ kb = (true && keptBs D vs ks)) := Lib.hid ⟨H5.out.1, by rw [HKH.out, HH.out, HA.out, hln]; simp [HV.out]⟩
              clear hln x0 x1 x2 x3 xb xe
              have x0 := y0
              have x1 := y1
              have x2 := y2
              have x3 := y3
              have xb := yb
              have xe := ye
              clear HH HA HKH y0 y1 y2 y3 yb ye
              go_wp2_with fail
              go_loopw [65] (fun v65 wr => ∃ (i : Nat), i ≤ kl ∧ v65 = .int .i64 (i : Int) ∧ Hid (Below w1.heap.size w1 wr ∧ keptBs D vs (ks.take i) = true)) (fun v65 _ => kl - (intOf v65).toNat)
              case atStart => exact ⟨0, Nat.zero_le _, rfl, Lib.hid ⟨HL.out.1, by rw [List.take_zero, keptBs]⟩⟩
              case round =>
                obtain ⟨i, hi, rfl, HJ⟩ := hrel
                clear x0 x1 x2 x3 xb xe
                by_cases hli : i < kl
                · have hd : decide ((i : Int) < (kl : Int)) = true := by simpa using hli
                  obtain ⟨t, ht⟩ : ∃ t, ks[i]? = some t := ⟨_, List.getElem?_eq_getElem (by rw [HI.out.1]; exact hli)⟩
                  obtain ⟨ba, oa, A', c', rfl, _, _, z0, z1, z2, z3, hok, hlc, hcm, hKt⟩ := (HX.out wr HJ.out.1).2.2.2.2.2.2.2.2.get ht
                  obtain ⟨tl, htl⟩ : ∃ tl, t.ks.length = tl := ⟨_, rfl⟩
                  rw [htl] at z3
                  obtain ⟨w3, hw3⟩ : ∃ W, wr.alloc (.cells #[.int .u8 (t.k : Int), .string (str t.nm), .int .i64 t.n, .slice A' tl c'] 24) = W := ⟨_, rfl⟩
                  have hb3 : Below wr.heap.size wr w3 := by rw [← hw3]; exact (Below.refl _ _).alloc (Nat.le_refl _) _
                  have hB3 : Blk w3 wr.heap.size 24 #[.int .u8 (t.k : Int), .string (str t.nm), .int .i64 t.n, .slice A' tl c'] := by rw [← hw3]; exact Blk.new _ _ _
                  have h13 : Below w1.heap.size w1 w3 := HJ.out.1.trans (hb3.mono HJ.out.1.size)
                  obtain ⟨q3, hq3⟩ : ∃ q, wr.heap.size = q := ⟨_, rfl⟩
                  rw [hq3] at hB3
                  have y0 : w3.cell? ⟨q3, 0, none⟩ = some (.int .u8 (t.k : Int)) := hB3.cell 0
                  have y1 : w3.cell? ⟨q3, 1, none⟩ = some (.string (str t.nm)) := hB3.cell 1
                  have y2 : w3.cell? ⟨q3, 2, none⟩ = some (.int .i64 t.n) := hB3.cell 2
                  have y3 : w3.cell? ⟨q3, 3, none⟩ = some (.slice A' tl c') := hB3.cell 3
                  obtain ⟨_, _, _, _, xb, xe, hbk, hss, _⟩ := HX.out w3 h13
                  obtain ⟨b, hb⟩ : ∃ b, keptB D vs t = b := ⟨_, rfl⟩
                  have hC := HI.out.2 t (List.mem_of_getElem? ht) A' c' w3 hok.2.2 (Nat.le_trans hlc hcm) hbk hss (hKt.bel hb3 |>.mono fun k h => Nat.lt_of_lt_of_le h (Nat.le_trans HJ.out.1.size hb3.size))
                  unfold Ty.val at hC
                  rw [htl, hb] at hC
                  obtain ⟨ev, hev⟩ : ∃ v, (if b = true then Value.nilIface else errv e0) = v := ⟨_, rfl⟩
                  rw [hev] at hC
                  have HC := Lib.hid hC
                  have HEV := Lib.hid hev
                  have HNX := Lib.hid (keptBs_next (D := D) (vs := vs) ht)
                  have HBM := Lib.hid (And.intro hb (List.mem_of_getElem? ht))
                  have HO3 := Lib.hid (And.intro h13 (And.intro hw3 hq3))
                  clear hC h13 hw3 hq3 hB3 hb3 hok hlc hcm hKt ht htl hbk hss hb hev
                  go_upto_region 22 with fail
                  (try rw [HO3.out.2.1])
                  (try rw [HO3.out.2.2])
                  cases b with
                  | true =>
                    go_wp2_with fail
                    refine HC.out.mono ?_
                    rintro e w4 ⟨rfl, h4⟩
                    obtain rfl : Value.nilIface = ev := by simpa using HEV.out
                    have HN : Hid (Below w1.heap.size w1 w4 ∧ keptBs D vs (ks.take (i + 1)) = true) := Lib.hid ⟨HO3.out.1.trans (h4.mono HO3.out.1.size), by rw [HNX.out, HJ.out.2, HBM.out.1]; rfl⟩
                    clear h4 y0 y1 y2 y3 z0 z1 z2 z3 HC HNX HO3 HBM xb xe HEV
                    go_wp2_with fail
                    go_roundw
                    case rel => exact ⟨i + 1, by omega, by go_num, HN⟩
                    case measure => simp [intOf]; omega
                  | false =>
                    go_wp2_with fail
                    refine HC.out.mono ?_
                    rintro e w4 ⟨rfl, h4⟩
                    obtain rfl : Value.iface 161 (.pointer (some e0)) = ev := by simpa [errv] using HEV.out
                    have HN : Hid (rv = errv e0 ∧ Below w.heap.size w w4) := Lib.hid ⟨HR.out.2.1 (by rw [HL.out.2, Bool.and_eq_false_iff]; exact .inr (keptBs_mem HBM.out.2 HBM.out.1)), HR.out.2.2 w4 (HO3.out.1.trans (h4.mono HO3.out.1.size))⟩
                    clear h4 y0 y1 y2 y3 z0 z1 z2 z3 HC HNX HO3 HBM xb xe HEV
                    go_wp2_with fail
                    go_ret
                    exact ⟨by rw [HN.out.1] <;> rfl, HN.out.2⟩
                · obtain rfl : kl = i := by omega
                  have hd : decide ((kl : Int) < (kl : Int)) = false := by simp
                  have HP : Hid (rv = .nilIface ∧ Below w.heap.size w wr) := Lib.hid ⟨HR.out.1 (by rw [HL.out.2, Bool.true_and]; have := HJ.out.2; rw [List.take_of_length_le (by rw [HI.out.1]; exact Nat.le_refl _)] at this; exact this), HR.out.2.2 wr HJ.out.1⟩
                  go_wp2_with fail
                  go_ret
                  exact ⟨by rw [HP.out.1] <;> rfl, HP.out.2⟩
            · have hne : ((kl : Int) != (vl : Int)) = true := by simp; omega
              have HP : Hid (rv = errv e0 ∧ Below w.heap.size w w5) := Lib.hid ⟨HR.out.2.1 (by rw [HKH.out, HH.out, HA.out]; simp [HV.out]; intro h; exact absurd h.symm hln), HR.out.2.2 _ H5.out.1⟩
              clear hln HH HA HKH HX HI HB1 
              go_wp2_with fail
              go_ret
              exact ⟨by rw [HP.out.1] <;> rfl, HP.out.2⟩
      · have e2 : ((k : Int) == 2) = false := by rw [beq_eq_false_iff_ne]; omega
        have HP : Hid (rv = errv e0 ∧ Below w.heap.size w w1) := Lib.hid ⟨HR.out.2.1 (by rw [HKH.out]; unfold hdK; rw [if_neg h4, if_neg h2]; rfl), HR.out.2.2 _ (Below.refl _ _)⟩
        clear h1 h4 h2
        go_wp2_with fail
        go_ret
        exact ⟨by rw [HP.out.1] <;> rfl, HP.out.2⟩
end Go.Proofs.YtadogebhkldeiaaGreatDoor
