/- DiskArms. -/
import Derived.Test.YtdohfkblmadejaaImg
import Derived.Deep.Grids
import Derived.Lib.MinMax
namespace Go.Proofs.Ytdohfkblmadejaa
open Go.RowKit Go.ChangeShapes Go.WideShapes Dsk

/-- A slice of booleans. -/
def Bools (w : World) (A : Option Addr) (bs : List Bool) : Prop :=
  ∀ (k : Nat) (b : Bool), bs[k]? = some b → ∃ g off, A = some ⟨g, off, none⟩ ∧ g < w.heap.size ∧ w.cell? ⟨g, off + k, none⟩ = some (.bool b)
def OpenedB (w : World) (v : Value) : Prop := ∃ A len cap bs, v = .slice A len cap ∧ bs.length = len ∧ len ≤ cap ∧ cap ≤ maxLen ∧ Bools w A bs
theorem openedB {H : Type} {enc : TypeId × Value → H} {W : World} {v : Value} {d : DataW H} {p : List MemPlace} (hok : Value.okWide Try.prog W .any 0 63 v)
    (h : DataW.Trod enc Try.prog W 0 (fun _ => true) true 63 v d p) : OpenedB W v := by
  obtain ⟨a0, len0, cap0, rfl⟩ := okWide_slice Try.underlying63 hok
  obtain ⟨fuel, hf⟩ := h
  rcases Deep.open_slice1 Try.underlying63 (by kernel_rfl) hf with ⟨hcs, _⟩ | ⟨x, l, c, m, n, V, D, Pl, hcs, _, hl, hm, hmm, _, hr⟩
  · simp [Value.cells] at hcs
    obtain ⟨rfl, rfl, rfl⟩ := hcs
    exact ⟨none, 0, 0, [], rfl, rfl, Nat.le_refl _, Nat.zero_le _, fun r bs h => by simp at h⟩
  · simp [Value.cells] at hcs
    obtain ⟨rfl, rfl, rfl⟩ := hcs
    simp only [if_true] at hmm
    subst hmm
    have each : ∀ r, r < m → ∃ b : Bool, W.cell? (x.add r) = some (.bool b) := by
      intro r hrm
      obtain ⟨h0, t0⟩ := hr r hrm
      obtain ⟨b, e0, _⟩ := DataW.trod_bool Try.underlying4 t0
      have e : V r = .bool b := by simpa using e0
      exact ⟨b, by rw [h0, e]⟩
    obtain ⟨F, hF⟩ := Deep.choose_lt each
    refine ⟨some x, len0, m, (List.range len0).map F, rfl, by simp, hl, hm, fun r b hb => ?_⟩
    rw [List.getElem?_map] at hb
    have hrl : r < len0 := by
      rcases Nat.lt_or_ge r len0 with h | h
      · exact h
      · rw [List.getElem?_eq_none (by simp; omega)] at hb; cases hb
    rw [List.getElem?_range hrl] at hb
    simp only [Option.map_some, Option.some.injEq] at hb
    have h0 := hF r (by omega)
    have z0 := hF 0 (by omega)
    obtain ⟨g, off, spot⟩ := x
    have hspot : spot = none := by simpa [Addr.add] using World.cell?_spot z0
    subst hspot
    rw [add_none, hb] at h0
    exact ⟨g, off, rfl, World.block_lt_of_cell? W _ h0, h0⟩

/-- Armed with n, j steps on. -/
structure ArmS (n j : Nat) (D : DS) : Prop where
  dead : D.dead = decide (0 < n ∧ n ≤ j)
  armed : D.armed = n - j
  steps : D.steps = if n = 0 then j else min j n
  len : D.S.length = 16
  pend : D.P.length ≤ j

theorem refuse_dead (n : Nat) (i : Int) : refuse true n i = 4 := rfl
theorem ArmS.gone {n j : Nat} {D : DS} (h : ArmS n j D) (h0 : 0 < n) (hj : n ≤ j) (i : Int) (b : List UInt8) : writeE D i b = 4 ∧ writeD D i b = D ∧ barE D = 4 ∧ barD D = D ∧ D.dead = true ∧ ArmS n (j + 1) D := by
  have hd : D.dead = true := by rw [h.dead]; simp; omega
  refine ⟨by unfold writeE; rw [hd, refuse_dead]; rfl, writeD_no (fun e => by have := e.1; rw [hd, refuse_dead] at this; cases this), by unfold barE; rw [hd]; rfl, by unfold barD; rw [hd]; rfl, hd, ⟨by rw [hd]; simp; omega, by rw [h.armed]; omega, by rw [h.steps, if_neg (by omega), if_neg (by omega)]; omega, h.len, by have := h.pend; omega⟩⟩
theorem ArmS.live {n j : Nat} {D : DS} (h : ArmS n j D) (h0 : n = 0 ∨ j < n) (s : Nat) (hs : s < 16) (b : List UInt8) (hb : b.length ≤ 256) : writeE D s b = stepE (pushD D s (filled b 256)) ∧ writeD D s b = stepD (pushD D s (filled b 256)) ∧ D.dead = false := by
  have hd : D.dead = false := by rw [h.dead]; simp; omega
  have hr : refuse D.dead D.S.length (s : Int) = 0 := by rw [hd, h.len]; exact refuse_in hs
  refine ⟨by unfold writeE; rw [if_pos hr, if_pos hb, Int.toNat_natCast], by unfold writeD; rw [if_pos ⟨hr, hb⟩, Int.toNat_natCast], hd⟩
theorem ArmS.goes {n j : Nat} {D : DS} (h : ArmS n j D) (hn : n = j + 1) (s : Nat) (hs : s < 16) (b : List UInt8) (hb : b.length ≤ 256) : writeE D s b = 4 ∧ (writeD D s b).dead = true ∧ (writeD D s b).P.length = D.P.length + 1 ∧ (writeD D s b).S = D.S ∧ ArmS n (j + 1) (writeD D s b) ∧
    barE D = 4 ∧ (barD D).dead = true ∧ (barD D).P.length = D.P.length ∧ (barD D).S = D.S ∧ ArmS n (j + 1) (barD D) := by
  obtain ⟨e1, e2, e3⟩ := h.live (.inr (by omega)) s hs b hb
  have ha : D.armed = 1 := by rw [h.armed]; omega
  have hd : ∀ D' : DS, D'.armed = 1 → (stepD D').dead = true := fun D' e => by unfold stepD; simp [e]
  have hst : D.steps + 1 = if n = 0 then j + 1 else min (j + 1) n := by rw [h.steps, if_neg (by omega), if_neg (by omega)]; omega
  have eb : barD D = stepD D := by unfold barD; rw [e3, hd D ha]; rfl
  have hbe : barE D = 4 := by unfold barE stepE; rw [e3, hd D ha]; rfl
  rw [e1, e2, eb, hbe]
  refine ⟨by unfold stepE; rw [hd (pushD D s (filled b 256)) ha]; rfl, hd (pushD D s (filled b 256)) ha, by show (D.P ++ [_]).length = _; simp, rfl, ⟨by rw [hd (pushD D s (filled b 256)) ha]; simp; omega, by show D.armed - 1 = _; omega, hst, h.len, by show (D.P ++ [_]).length ≤ _; have := h.pend; simp; omega⟩, rfl, hd D ha, rfl, rfl, ⟨by rw [hd D ha]; simp; omega, by show D.armed - 1 = _; omega, hst, h.len, by have := h.pend; show D.P.length ≤ _; omega⟩⟩
theorem ArmS.on {n j : Nat} {D : DS} (h : ArmS n j D) (hn : n = 0 ∨ j + 1 < n) (s : Nat) (hs : s < 16) (b : List UInt8) (hb : b.length ≤ 256) : writeE D s b = 0 ∧ (writeD D s b).dead = false ∧ (writeD D s b).P.length = D.P.length + 1 ∧ (writeD D s b).S = D.S ∧ ArmS n (j + 1) (writeD D s b) ∧
    barE D = 0 ∧ (barD D).dead = false ∧ (barD D).P.length = 0 ∧ ArmS n (j + 1) (barD D) := by
  obtain ⟨e1, e2, e3⟩ := h.live (by omega) s hs b hb
  have hd : ∀ D' : DS, D'.armed = D.armed → D'.dead = false → (stepD D').dead = false := fun D' e e' => by
    unfold stepD
    have := h.armed
    by_cases h0 : D'.armed = 0
    · simp [h0, e']
    · simp [h0]; omega
  have hst : D.steps + 1 = if n = 0 then j + 1 else min (j + 1) n := by
    rw [h.steps]
    rcases hn with rfl | hn
    · simp
    · rw [if_neg (by omega), if_neg (by omega)]; omega
  have eb : barD D = clearD (sett (fun _ b => some b) (stepD D) D.P.length) := by unfold barD; rw [e3, hd D rfl e3]; rfl
  have hbe : barE D = 0 := by unfold barE stepE; rw [e3, hd D rfl e3]; rfl
  have ha : D.armed - 1 = n - (j + 1) := by rw [h.armed]; omega
  have hdn : false = decide (0 < n ∧ n ≤ j + 1) := by symm; simp; omega
  rw [e1, e2, eb, hbe]
  refine ⟨by unfold stepE; rw [hd (pushD D s (filled b 256)) rfl e3]; rfl, hd (pushD D s (filled b 256)) rfl e3, by show (D.P ++ [_]).length = _; simp, rfl, ⟨by rw [hd (pushD D s (filled b 256)) rfl e3]; exact hdn, ha, hst, h.len, by show (D.P ++ [_]).length ≤ _; have := h.pend; simp; omega⟩, rfl, hd D rfl e3, rfl, ⟨(hd D rfl e3).trans hdn, ha, hst, ?_, Nat.zero_le _⟩⟩
  show (settleTo _ _ _ _).length = 16
  rw [settleTo_length]; exact h.len

theorem two_bytes (w : World) (x y : UInt8) : Bytes (w.alloc (.cells #[.int .u8 (x.toNat : Int), .int .u8 (y.toNat : Int)] 5)) (some ⟨w.heap.size, 0, none⟩) [x, y] := by
  have h := Blk.new w 5 (row8 [x, y])
  exact Bytes.row h

/-- Between the rounds of DiskArms. -/
def AInv (w wr : World) (g n j p : Nat) : Prop := ∃ D, Run w wr (fun _ => False) g D ∧ ArmS n j D ∧ D.P.length = p

set_option maxRecDepth 20000 in
set_option maxHeartbeats 4000000 in
theorem arms_any (n len cap : Nat) (A : Option Addr) (bs : List Bool) (w : World) (hn : n < 256) (hlen : bs.length = len) (hA : Bools w A bs) :
    Calls Try.prog 7 #[.int .u8 (n : Int), .slice A len cap] w fun e W' => e = .returned (.bool true) ∧ Below w.heap.size w W' := by
  by_cases hbig : 120 < len
  · have hd : decide ((120 : Int) < (len : Int)) = true := by simp; omega
    have HW := Lib.hid (works_any w)
    clear hA
    go_enter Try.func7, Try.ntmps7
    go_wp2_with fail
    refine HW.out.mono ?_
    rintro e w2 ⟨rfl, hb⟩
    have HB := Lib.hid hb
    clear hb
    go_wp2_with fail
    go_ret
    exact ⟨rfl, HB.out⟩
  have hd : decide ((120 : Int) < (len : Int)) = false := by simp; omega
  have hl120 : len ≤ 120 := by omega
  have HA := Lib.hid hA
  have HL := Lib.hid hlen
  have H1 := Lib.hid (Run.new 16 w w (fun _ => False) (fun _ h => h.elim) (Below.refl _ _) (by decide))
  clear hA hlen hbig
  go_enter Try.func7, Try.ntmps7
  go_wp2_with fail
  refine H1.out.mono ?_
  rintro e w1 ⟨g, rfl, hR, _⟩
  have h2 := hR.arm (n : Int) (by omega)
  have e2 : armE (newD 16) (n : Int) = 0 ∧ armD (newD 16) (n : Int) = { newD 16 with armed := n } := by
    unfold armE armD newD
    simp
    omega
  rw [e2.1, e2.2] at h2
  have H2 := Lib.hid h2
  clear h2 e2 hR H1
  go_wp2_with fail
  refine H2.out.mono ?_
  rintro e w2 ⟨rfl, hR, _⟩
  have h3 := hR.arm (-1) (by omega)
  have e3 : armE { newD 16 with armed := n } (-1) = 1 ∧ armD { newD 16 with armed := n } (-1) = { newD 16 with armed := n } := ⟨rfl, rfl⟩
  rw [e3.1, e3.2] at h3
  have H3 := Lib.hid h3
  clear h3 e3 hR H2
  go_wp2_with fail
  refine H3.out.mono ?_
  rintro e w3 ⟨rfl, hR, _⟩
  have HINV : Hid (AInv w w3 g n 0 0) := Lib.hid ⟨_, hR, ⟨by symm; simp [newD]; omega, rfl, by simp [newD], List.length_replicate, Nat.le_refl _⟩, rfl⟩
  clear hR H3
  go_wp2_with fail
  go_loopw [7, 8, 9, 10, 11, 12] (fun pv i a b c d wr => ∃ j p : Nat, j ≤ len ∧ p ≤ j ∧ i = .int .i64 (j : Int) ∧ pv = .int .i64 (p : Int) ∧ Hid (AInv w wr g n j p)) (fun _ i _ _ _ _ _ => len - (intOf i).toNat)
  case atStart => exact ⟨0, 0, Nat.zero_le _, Nat.le_refl _, rfl, rfl, HINV⟩
  case round =>
    obtain ⟨j, p, hj, hpj, rfl, rfl, hI⟩ := hrel
    clear HINV
    obtain ⟨D, hR, hS, hpl⟩ := hI.out
    by_cases hlt : j < len
    · have hd1 : decide ((j : Int) < (len : Int)) = true := by simpa using hlt
      obtain ⟨kb, hkb⟩ : ∃ kb, bs[j]? = some kb := ⟨_, List.getElem?_eq_getElem (by rw [HL.out]; exact hlt)⟩
      obtain ⟨gb, off, rfl, hgb, hcb⟩ := HA.out j kb hkb
      have H4 := Lib.hid hR.image
      have HCB := Lib.hid hcb
      have HGB := Lib.hid hgb
      have HS := Lib.hid hS
      have HPL := Lib.hid hpl
      have HR := Lib.hid hR
      have h16 : Hid (D.S.length = 16) := Lib.hid hS.len
      have hbd : D.P.length < 1000000 ∧ D.steps < 1000000000 := by have := hS.pend; have := hS.steps; split at this <;> omega
      have HBD := Lib.hid hbd
      rw [h16.out] at H4
      clear hR hcb hgb hS hpl hI hkb hbd
      go_wp2_with fail
      refine H4.out.mono ?_
      rintro e w4 ⟨rfl, hsec, hw4⟩
      have hR4 := HR.out.add hw4 (fun i => wr.heap.size ≤ i ∧ i < w4.heap.size) (fun i hi => .inr hi)
      have hc4 : w4.cell? ⟨gb, off + j, none⟩ = some (.bool kb) := (hR4.bel.cell (p := ⟨gb, off + j, none⟩) HGB.out).trans HCB.out
      have HR4 := Lib.hid hR4
      have HSEC := Lib.hid hsec
      have HW4 : Hid (wr.heap.size < w4.heap.size) := Lib.hid hsec.lt
      clear hR4 hsec hw4 H4 HR
      cases kb
      · by_cases q1 : 0 < n ∧ n ≤ j
        · have h0 : 0 < n := by omega
          have hj2 : n ≤ j := by omega
          have n1 : decide ((0 : Int) < (n : Int)) = true := by simp; omega
          have n5 : decide (0 < n) = true := by simp; omega
          have n2 : ((j : Int) == (n : Int) - 1) = false := by simp; omega
          have n3 : decide ((n : Int) ≤ (j : Int)) = true := by simp; omega
          have n4 : decide (n ≤ j) = true := by simp; omega
          have hS0 := HS.out
          obtain ⟨we, wd, be, bd, dd, ar⟩ := hS0.gone h0 hj2 ((j % 16 : Nat) : Int) [UInt8.ofNat j, 1]
          have h5 := HR4.out.barrier HBD.out.1 HBD.out.2
          rw [be] at h5
          rw [bd] at h5
          have HAR := Lib.hid ar
          have HPN := HPL
          have HED := Lib.hid dd
          have HEP := HPL
          clear h0 hj2 q1
          clear hS0 we be wd bd dd ar
          have H5 := Lib.hid h5
          clear h5
          go_wp2_with fail
          refine H5.out.mono ?_
          rintro e w5 ⟨rfl, hR5, hk5⟩
          have hc5 : w5.cell? ⟨gb, off + j, none⟩ = some (.bool false) := (hR5.bel.cell (p := ⟨gb, off + j, none⟩) HGB.out).trans HCB.out
          have hsec5 := HSEC.out.same hk5.size (fun i hi _ => hk5.at_ i ⟨Nat.le_of_lt hi.1, hi.2⟩) (hk5.at_ _ ⟨Nat.le_refl _, HW4.out⟩)
          clear H5 HR4
          have H7 := Lib.hid (hR5.image)
          have hS5 : (D).S.length = 16 := by exact h16.out
          rw [hS5] at H7
          have HSEC5 := Lib.hid hsec5
          have HR5 := Lib.hid hR5
          obtain ⟨F5, hD5, _⟩ := hR5.own
          have h8 := Disk.dead_ g F5 _ w5 hD5
          have h9 := Disk.pending_ g F5 _ w5 hD5
          rw [HED.out] at h8
          rw [HEP.out] at h9
          have H8 := Lib.hid h8
          have H9 := Lib.hid h9
          clear h8 h9 hR5 hD5 hsec5 hS5 hk5
          go_wp2_with fail
          refine H8.out.mono ?_
          rintro e w' ⟨rfl, rfl⟩
          go_wp2_with fail
          refine H9.out.mono ?_
          rintro e w' ⟨rfl, rfl⟩
          go_wp2_with fail
          refine H7.out.mono ?_
          rintro e w7 ⟨rfl, hsec7, hw7⟩
          have h10 := same_any (some ⟨w5.heap.size, 0, none⟩) (some ⟨wr.heap.size, 0, none⟩) 16 16 16 16 (D).S D.S w7 (by exact h16.out) h16.out hsec7.img (HSEC5.out.img.below hw7) (by decide) (fun b hb => by have := HR5.out.own; obtain ⟨F, hF, _⟩ := this; rcases hF.ok.sec b hb with rfl | h <;> simp_all) (fun b hb => by have := HR5.out.own; obtain ⟨F, hF, _⟩ := this; rcases hF.ok.sec b (by exact hb) with rfl | h <;> simp_all)
          rw [decide_eq_true rfl] at h10
          have H10 := Lib.hid h10
          have HR7 := Lib.hid ((HR5.out.below hw7).less (Y := fun _ => False) fun _ h => h.elim)
          clear h10 hsec7 hw7 H7 H8 H9 HR5 HSEC5
          go_wp2_with fail
          refine H10.out.mono ?_
          rintro e w8 ⟨rfl, hw8⟩
          have HINV : Hid (AInv w w8 g n (j + 1) (p)) := Lib.hid ⟨_, HR7.out.below hw8, HAR.out, HPN.out⟩
          clear hw8 H10 HR7
          go_wp2_with fail
          go_roundw
          case rel => exact ⟨j + 1, p, by omega, by omega, by go_num, by first | rfl | go_num, HINV⟩
          case measure => simp [intOf]; omega
        · by_cases q2 : n = j + 1
          · have h0 : n = j + 1 := by omega
            have n1 : decide ((0 : Int) < (n : Int)) = true := by simp; omega
            have n5 : decide (0 < n) = true := by simp; omega
            have n2 : ((j : Int) == (n : Int) - 1) = true := by simp; omega
            have n3 : decide ((n : Int) ≤ (j : Int)) = false := by simp; omega
            have n4 : decide (n ≤ j) = false := by simp; omega
            have hS0 := HS.out
            obtain ⟨we, wdd, wp, ws, war, be, bdd, bp, bs0, bar⟩ := hS0.goes h0 (j % 16) (Nat.mod_lt _ (by decide)) [UInt8.ofNat j, 1] (by show 2 ≤ 256; decide)
            have h5 := HR4.out.barrier HBD.out.1 HBD.out.2
            rw [be] at h5
            have HAR := Lib.hid bar
            have HPN : Hid ((barD D).P.length = p) := Lib.hid (by rw [bp, HPL.out])
            have HED := Lib.hid bdd
            have HES := Lib.hid bs0
            have HEP := HPN
            clear h0 q1 q2
            clear hS0 we be wdd wp ws war bdd bp bs0 bar
            generalize barD D = DN at *
            have H5 := Lib.hid h5
            clear h5
            go_wp2_with fail
            refine H5.out.mono ?_
            rintro e w5 ⟨rfl, hR5, hk5⟩
            have hc5 : w5.cell? ⟨gb, off + j, none⟩ = some (.bool false) := (hR5.bel.cell (p := ⟨gb, off + j, none⟩) HGB.out).trans HCB.out
            have hsec5 := HSEC.out.same hk5.size (fun i hi _ => hk5.at_ i ⟨Nat.le_of_lt hi.1, hi.2⟩) (hk5.at_ _ ⟨Nat.le_refl _, HW4.out⟩)
            clear H5 HR4
            have H7 := Lib.hid (hR5.image)
            have hS5 : (DN).S.length = 16 := by rw [HES.out]; exact h16.out
            rw [hS5] at H7
            have HSEC5 := Lib.hid hsec5
            have HR5 := Lib.hid hR5
            obtain ⟨F5, hD5, _⟩ := hR5.own
            have h8 := Disk.dead_ g F5 _ w5 hD5
            have h9 := Disk.pending_ g F5 _ w5 hD5
            rw [HED.out] at h8
            rw [HEP.out] at h9
            have H8 := Lib.hid h8
            have H9 := Lib.hid h9
            clear h8 h9 hR5 hD5 hsec5 hS5 hk5
            go_wp2_with fail
            refine H8.out.mono ?_
            rintro e w' ⟨rfl, rfl⟩
            go_wp2_with fail
            refine H9.out.mono ?_
            rintro e w' ⟨rfl, rfl⟩
            go_wp2_with fail
            refine H7.out.mono ?_
            rintro e w7 ⟨rfl, hsec7, hw7⟩
            have h10 := same_any (some ⟨w5.heap.size, 0, none⟩) (some ⟨wr.heap.size, 0, none⟩) 16 16 16 16 (DN).S D.S w7 (by rw [HES.out]; exact h16.out) h16.out hsec7.img (HSEC5.out.img.below hw7) (by decide) (fun b hb => by have := HR5.out.own; obtain ⟨F, hF, _⟩ := this; rcases hF.ok.sec b hb with rfl | h <;> simp_all) (fun b hb => by have := HR5.out.own; obtain ⟨F, hF, _⟩ := this; rcases hF.ok.sec b (by rw [HES.out]; exact hb) with rfl | h <;> simp_all)
            rw [decide_eq_true HES.out] at h10
            have H10 := Lib.hid h10
            have HR7 := Lib.hid ((HR5.out.below hw7).less (Y := fun _ => False) fun _ h => h.elim)
            clear h10 hsec7 hw7 H7 H8 H9 HR5 HSEC5
            go_wp2_with fail
            refine H10.out.mono ?_
            rintro e w8 ⟨rfl, hw8⟩
            have HINV : Hid (AInv w w8 g n (j + 1) (p)) := Lib.hid ⟨_, HR7.out.below hw8, HAR.out, HPN.out⟩
            clear hw8 H10 HR7
            go_wp2_with fail
            go_roundw
            case rel => exact ⟨j + 1, p, by omega, by omega, by go_num, by first | rfl | go_num, HINV⟩
            case measure => simp [intOf]; omega
          · by_cases q3 : n = 0
            · have h0 : n = 0 ∨ j + 1 < n := by omega
              have n1 : decide ((0 : Int) < (n : Int)) = false := by simp; omega
              have n5 : decide (0 < n) = false := by simp; omega
              have hS0 := HS.out
              obtain ⟨we, wdd, wp, ws, war, be, bdd, bp, bar⟩ := hS0.on h0 (j % 16) (Nat.mod_lt _ (by decide)) [UInt8.ofNat j, 1] (by show 2 ≤ 256; decide)
              have h5 := HR4.out.barrier HBD.out.1 HBD.out.2
              rw [be] at h5
              have HAR := Lib.hid bar
              have HPN : Hid ((barD D).P.length = 0) := Lib.hid bp
              have HED := Lib.hid bdd
              have HEP := HPN
              clear h0 q1 q2 q3
              clear hS0 we be wdd wp ws war bdd bp bar
              generalize barD D = DN at *
              have H5 := Lib.hid h5
              clear h5
              go_wp2_with fail
              refine H5.out.mono ?_
              rintro e w5 ⟨rfl, hR5, hk5⟩
              have hc5 : w5.cell? ⟨gb, off + j, none⟩ = some (.bool false) := (hR5.bel.cell (p := ⟨gb, off + j, none⟩) HGB.out).trans HCB.out
              have hsec5 := HSEC.out.same hk5.size (fun i hi _ => hk5.at_ i ⟨Nat.le_of_lt hi.1, hi.2⟩) (hk5.at_ _ ⟨Nat.le_refl _, HW4.out⟩)
              clear H5 HR4
              have HR5 := Lib.hid (hR5.less (Y := fun _ => False) fun _ h => h.elim)
              obtain ⟨F5, hD5, _⟩ := hR5.own
              have h8 := Disk.dead_ g F5 _ w5 hD5
              have h9 := Disk.pending_ g F5 _ w5 hD5
              rw [HED.out] at h8
              rw [HEP.out] at h9
              have H8 := Lib.hid h8
              have H9 := Lib.hid h9
              clear h8 h9 hR5 hD5 hsec5 hk5
              go_wp2_with fail
              refine H8.out.mono ?_
              rintro e w' ⟨rfl, rfl⟩
              go_wp2_with fail
              refine H9.out.mono ?_
              rintro e w' ⟨rfl, rfl⟩
              have HINV : Hid (AInv w w5 g n (j + 1) 0) := Lib.hid ⟨_, HR5.out, HAR.out, HPN.out⟩
              clear H8 H9 HR5
              go_wp2_with fail
              go_roundw
              case rel => exact ⟨j + 1, 0, by omega, by omega, by go_num, by first | rfl | go_num, HINV⟩
              case measure => simp [intOf]; omega
            · have h0 : n = 0 ∨ j + 1 < n := by omega
              have n1 : decide ((0 : Int) < (n : Int)) = true := by simp; omega
              have n5 : decide (0 < n) = true := by simp; omega
              have n2 : ((j : Int) == (n : Int) - 1) = false := by simp; omega
              have n3 : decide ((n : Int) ≤ (j : Int)) = false := by simp; omega
              have n4 : decide (n ≤ j) = false := by simp; omega
              have hS0 := HS.out
              obtain ⟨we, wdd, wp, ws, war, be, bdd, bp, bar⟩ := hS0.on h0 (j % 16) (Nat.mod_lt _ (by decide)) [UInt8.ofNat j, 1] (by show 2 ≤ 256; decide)
              have h5 := HR4.out.barrier HBD.out.1 HBD.out.2
              rw [be] at h5
              have HAR := Lib.hid bar
              have HPN : Hid ((barD D).P.length = 0) := Lib.hid bp
              have HED := Lib.hid bdd
              have HEP := HPN
              clear h0 q1 q2 q3
              clear hS0 we be wdd wp ws war bdd bp bar
              generalize barD D = DN at *
              have H5 := Lib.hid h5
              clear h5
              go_wp2_with fail
              refine H5.out.mono ?_
              rintro e w5 ⟨rfl, hR5, hk5⟩
              have hc5 : w5.cell? ⟨gb, off + j, none⟩ = some (.bool false) := (hR5.bel.cell (p := ⟨gb, off + j, none⟩) HGB.out).trans HCB.out
              have hsec5 := HSEC.out.same hk5.size (fun i hi _ => hk5.at_ i ⟨Nat.le_of_lt hi.1, hi.2⟩) (hk5.at_ _ ⟨Nat.le_refl _, HW4.out⟩)
              clear H5 HR4
              have HR5 := Lib.hid (hR5.less (Y := fun _ => False) fun _ h => h.elim)
              obtain ⟨F5, hD5, _⟩ := hR5.own
              have h8 := Disk.dead_ g F5 _ w5 hD5
              have h9 := Disk.pending_ g F5 _ w5 hD5
              rw [HED.out] at h8
              rw [HEP.out] at h9
              have H8 := Lib.hid h8
              have H9 := Lib.hid h9
              clear h8 h9 hR5 hD5 hsec5 hk5
              go_wp2_with fail
              refine H8.out.mono ?_
              rintro e w' ⟨rfl, rfl⟩
              go_wp2_with fail
              refine H9.out.mono ?_
              rintro e w' ⟨rfl, rfl⟩
              have HINV : Hid (AInv w w5 g n (j + 1) 0) := Lib.hid ⟨_, HR5.out, HAR.out, HPN.out⟩
              clear H8 H9 HR5
              go_wp2_with fail
              go_roundw
              case rel => exact ⟨j + 1, 0, by omega, by omega, by go_num, by first | rfl | go_num, HINV⟩
              case measure => simp [intOf]; omega
      · by_cases q1 : 0 < n ∧ n ≤ j
        · have h0 : 0 < n := by omega
          have hj2 : n ≤ j := by omega
          have n1 : decide ((0 : Int) < (n : Int)) = true := by simp; omega
          have n5 : decide (0 < n) = true := by simp; omega
          have n2 : ((j : Int) == (n : Int) - 1) = false := by simp; omega
          have n3 : decide ((n : Int) ≤ (j : Int)) = true := by simp; omega
          have n4 : decide (n ≤ j) = true := by simp; omega
          have hS0 := HS.out
          obtain ⟨we, wd, be, bd, dd, ar⟩ := hS0.gone h0 hj2 ((j % 16 : Nat) : Int) [UInt8.ofNat j, 1]
          have h5 := (HR4.out.below ((Below.refl _ w4).alloc (Nat.le_refl _) (.cells #[.int .u8 ((UInt8.ofNat j).toNat : Int), .int .u8 ((1 : UInt8).toNat : Int)] 5))).write 2 2 _ ((j % 16 : Nat) : Int) [UInt8.ofNat j, 1] rfl (two_bytes w4 _ _) HBD.out.1 HBD.out.2
          rw [we] at h5
          rw [wd] at h5
          have HAR := Lib.hid ar
          have HPN := HPL
          have HED := Lib.hid dd
          have HEP := HPL
          clear h0 hj2 q1
          clear hS0 we be wd bd dd ar
          have jm : (j : Int) % 16 = ((j % 16 : Nat) : Int) := by omega
          have jb : IntKind.u8.wrap (j : Int) = ((UInt8.ofNat j).toNat : Int) := by
            rw [IntWalk.u8_in _ ⟨by omega, by omega⟩, UInt8.toNat_ofNat']; omega
          have H5 := Lib.hid h5
          clear h5
          obtain ⟨jb8, hjb8⟩ : ∃ x, ((UInt8.ofNat j).toNat : Int) = x := ⟨_, rfl⟩
          obtain ⟨jm16, hjm⟩ : ∃ x, ((j % 16 : Nat) : Int) = x := ⟨_, rfl⟩
          rw [hjb8] at jb H5
          rw [hjm] at jm H5
          clear hjb8 hjm
          go_wp2_with fail
          refine H5.out.mono ?_
          rintro e w5 ⟨rfl, hR5, hk5⟩
          have hk5 := (Keep.of_below ((Below.refl w4.heap.size w4).alloc (Nat.le_refl _) _) HR4.out.lt).trans hk5
          have hc5 : w5.cell? ⟨gb, off + j, none⟩ = some (.bool true) := (hR5.bel.cell (p := ⟨gb, off + j, none⟩) HGB.out).trans HCB.out
          have hsec5 := HSEC.out.same hk5.size (fun i hi _ => hk5.at_ i ⟨Nat.le_of_lt hi.1, hi.2⟩) (hk5.at_ _ ⟨Nat.le_refl _, HW4.out⟩)
          clear H5 HR4
          have H7 := Lib.hid (hR5.image)
          have hS5 : (D).S.length = 16 := by exact h16.out
          rw [hS5] at H7
          have HSEC5 := Lib.hid hsec5
          have HR5 := Lib.hid hR5
          obtain ⟨F5, hD5, _⟩ := hR5.own
          have h8 := Disk.dead_ g F5 _ w5 hD5
          have h9 := Disk.pending_ g F5 _ w5 hD5
          rw [HED.out] at h8
          rw [HEP.out] at h9
          have H8 := Lib.hid h8
          have H9 := Lib.hid h9
          clear h8 h9 hR5 hD5 hsec5 hS5 hk5
          go_wp2_with fail
          refine H8.out.mono ?_
          rintro e w' ⟨rfl, rfl⟩
          go_wp2_with fail
          refine H9.out.mono ?_
          rintro e w' ⟨rfl, rfl⟩
          go_wp2_with fail
          refine H7.out.mono ?_
          rintro e w7 ⟨rfl, hsec7, hw7⟩
          have h10 := same_any (some ⟨w5.heap.size, 0, none⟩) (some ⟨wr.heap.size, 0, none⟩) 16 16 16 16 (D).S D.S w7 (by exact h16.out) h16.out hsec7.img (HSEC5.out.img.below hw7) (by decide) (fun b hb => by have := HR5.out.own; obtain ⟨F, hF, _⟩ := this; rcases hF.ok.sec b hb with rfl | h <;> simp_all) (fun b hb => by have := HR5.out.own; obtain ⟨F, hF, _⟩ := this; rcases hF.ok.sec b (by exact hb) with rfl | h <;> simp_all)
          rw [decide_eq_true rfl] at h10
          have H10 := Lib.hid h10
          have HR7 := Lib.hid ((HR5.out.below hw7).less (Y := fun _ => False) fun _ h => h.elim)
          clear h10 hsec7 hw7 H7 H8 H9 HR5 HSEC5
          go_wp2_with fail
          refine H10.out.mono ?_
          rintro e w8 ⟨rfl, hw8⟩
          have HINV : Hid (AInv w w8 g n (j + 1) (p)) := Lib.hid ⟨_, HR7.out.below hw8, HAR.out, HPN.out⟩
          clear hw8 H10 HR7
          go_wp2_with fail
          go_roundw
          case rel => exact ⟨j + 1, p, by omega, by omega, by go_num, by first | rfl | go_num, HINV⟩
          case measure => simp [intOf]; omega
        · by_cases q2 : n = j + 1
          · have h0 : n = j + 1 := by omega
            have n1 : decide ((0 : Int) < (n : Int)) = true := by simp; omega
            have n5 : decide (0 < n) = true := by simp; omega
            have n2 : ((j : Int) == (n : Int) - 1) = true := by simp; omega
            have n3 : decide ((n : Int) ≤ (j : Int)) = false := by simp; omega
            have n4 : decide (n ≤ j) = false := by simp; omega
            have hS0 := HS.out
            obtain ⟨we, wdd, wp, ws, war, be, bdd, bp, bs0, bar⟩ := hS0.goes h0 (j % 16) (Nat.mod_lt _ (by decide)) [UInt8.ofNat j, 1] (by show 2 ≤ 256; decide)
            have h5 := (HR4.out.below ((Below.refl _ w4).alloc (Nat.le_refl _) (.cells #[.int .u8 ((UInt8.ofNat j).toNat : Int), .int .u8 ((1 : UInt8).toNat : Int)] 5))).write 2 2 _ ((j % 16 : Nat) : Int) [UInt8.ofNat j, 1] rfl (two_bytes w4 _ _) HBD.out.1 HBD.out.2
            rw [we] at h5
            have HAR := Lib.hid war
            have HPN : Hid ((writeD D ((j % 16 : Nat) : Int) [UInt8.ofNat j, 1]).P.length = p + 1) := Lib.hid (by rw [wp, HPL.out])
            have HED := Lib.hid wdd
            have HES := Lib.hid ws
            have HEP := HPN
            clear h0 q1 q2
            clear hS0 we be wdd wp ws war bdd bp bs0 bar
            generalize writeD D ((j % 16 : Nat) : Int) [UInt8.ofNat j, 1] = DN at *
            have jm : (j : Int) % 16 = ((j % 16 : Nat) : Int) := by omega
            have jb : IntKind.u8.wrap (j : Int) = ((UInt8.ofNat j).toNat : Int) := by
              rw [IntWalk.u8_in _ ⟨by omega, by omega⟩, UInt8.toNat_ofNat']; omega
            have H5 := Lib.hid h5
            clear h5
            obtain ⟨jb8, hjb8⟩ : ∃ x, ((UInt8.ofNat j).toNat : Int) = x := ⟨_, rfl⟩
            obtain ⟨jm16, hjm⟩ : ∃ x, ((j % 16 : Nat) : Int) = x := ⟨_, rfl⟩
            rw [hjb8] at jb H5
            rw [hjm] at jm H5
            clear hjb8 hjm
            go_wp2_with fail
            refine H5.out.mono ?_
            rintro e w5 ⟨rfl, hR5, hk5⟩
            have hk5 := (Keep.of_below ((Below.refl w4.heap.size w4).alloc (Nat.le_refl _) _) HR4.out.lt).trans hk5
            have hc5 : w5.cell? ⟨gb, off + j, none⟩ = some (.bool true) := (hR5.bel.cell (p := ⟨gb, off + j, none⟩) HGB.out).trans HCB.out
            have hsec5 := HSEC.out.same hk5.size (fun i hi _ => hk5.at_ i ⟨Nat.le_of_lt hi.1, hi.2⟩) (hk5.at_ _ ⟨Nat.le_refl _, HW4.out⟩)
            clear H5 HR4
            have H7 := Lib.hid (hR5.image)
            have hS5 : (DN).S.length = 16 := by rw [HES.out]; exact h16.out
            rw [hS5] at H7
            have HSEC5 := Lib.hid hsec5
            have HR5 := Lib.hid hR5
            obtain ⟨F5, hD5, _⟩ := hR5.own
            have h8 := Disk.dead_ g F5 _ w5 hD5
            have h9 := Disk.pending_ g F5 _ w5 hD5
            rw [HED.out] at h8
            rw [HEP.out] at h9
            have H8 := Lib.hid h8
            have H9 := Lib.hid h9
            clear h8 h9 hR5 hD5 hsec5 hS5 hk5
            go_wp2_with fail
            refine H8.out.mono ?_
            rintro e w' ⟨rfl, rfl⟩
            go_wp2_with fail
            refine H9.out.mono ?_
            rintro e w' ⟨rfl, rfl⟩
            go_wp2_with fail
            refine H7.out.mono ?_
            rintro e w7 ⟨rfl, hsec7, hw7⟩
            have h10 := same_any (some ⟨w5.heap.size, 0, none⟩) (some ⟨wr.heap.size, 0, none⟩) 16 16 16 16 (DN).S D.S w7 (by rw [HES.out]; exact h16.out) h16.out hsec7.img (HSEC5.out.img.below hw7) (by decide) (fun b hb => by have := HR5.out.own; obtain ⟨F, hF, _⟩ := this; rcases hF.ok.sec b hb with rfl | h <;> simp_all) (fun b hb => by have := HR5.out.own; obtain ⟨F, hF, _⟩ := this; rcases hF.ok.sec b (by rw [HES.out]; exact hb) with rfl | h <;> simp_all)
            rw [decide_eq_true HES.out] at h10
            have H10 := Lib.hid h10
            have HR7 := Lib.hid ((HR5.out.below hw7).less (Y := fun _ => False) fun _ h => h.elim)
            clear h10 hsec7 hw7 H7 H8 H9 HR5 HSEC5
            go_wp2_with fail
            refine H10.out.mono ?_
            rintro e w8 ⟨rfl, hw8⟩
            have HINV : Hid (AInv w w8 g n (j + 1) (p + 1)) := Lib.hid ⟨_, HR7.out.below hw8, HAR.out, HPN.out⟩
            clear hw8 H10 HR7
            go_wp2_with fail
            go_roundw
            case rel => exact ⟨j + 1, p + 1, by omega, by omega, by go_num, by first | rfl | go_num, HINV⟩
            case measure => simp [intOf]; omega
          · by_cases q3 : n = 0
            · have h0 : n = 0 ∨ j + 1 < n := by omega
              have n1 : decide ((0 : Int) < (n : Int)) = false := by simp; omega
              have n5 : decide (0 < n) = false := by simp; omega
              have hS0 := HS.out
              obtain ⟨we, wdd, wp, ws, war, be, bdd, bp, bar⟩ := hS0.on h0 (j % 16) (Nat.mod_lt _ (by decide)) [UInt8.ofNat j, 1] (by show 2 ≤ 256; decide)
              have h5 := (HR4.out.below ((Below.refl _ w4).alloc (Nat.le_refl _) (.cells #[.int .u8 ((UInt8.ofNat j).toNat : Int), .int .u8 ((1 : UInt8).toNat : Int)] 5))).write 2 2 _ ((j % 16 : Nat) : Int) [UInt8.ofNat j, 1] rfl (two_bytes w4 _ _) HBD.out.1 HBD.out.2
              rw [we] at h5
              have HAR := Lib.hid war
              have HPN : Hid ((writeD D ((j % 16 : Nat) : Int) [UInt8.ofNat j, 1]).P.length = p + 1) := Lib.hid (by rw [wp, HPL.out])
              have HED := Lib.hid wdd
              have HES := Lib.hid ws
              have HEP := HPN
              clear h0 q1 q2 q3
              clear hS0 we be wdd wp ws war bdd bp bar
              generalize writeD D ((j % 16 : Nat) : Int) [UInt8.ofNat j, 1] = DN at *
              have jm : (j : Int) % 16 = ((j % 16 : Nat) : Int) := by omega
              have jb : IntKind.u8.wrap (j : Int) = ((UInt8.ofNat j).toNat : Int) := by
                rw [IntWalk.u8_in _ ⟨by omega, by omega⟩, UInt8.toNat_ofNat']; omega
              have H5 := Lib.hid h5
              clear h5
              obtain ⟨jb8, hjb8⟩ : ∃ x, ((UInt8.ofNat j).toNat : Int) = x := ⟨_, rfl⟩
              obtain ⟨jm16, hjm⟩ : ∃ x, ((j % 16 : Nat) : Int) = x := ⟨_, rfl⟩
              rw [hjb8] at jb H5
              rw [hjm] at jm H5
              clear hjb8 hjm
              go_wp2_with fail
              refine H5.out.mono ?_
              rintro e w5 ⟨rfl, hR5, hk5⟩
              have hk5 := (Keep.of_below ((Below.refl w4.heap.size w4).alloc (Nat.le_refl _) _) HR4.out.lt).trans hk5
              have hc5 : w5.cell? ⟨gb, off + j, none⟩ = some (.bool true) := (hR5.bel.cell (p := ⟨gb, off + j, none⟩) HGB.out).trans HCB.out
              have hsec5 := HSEC.out.same hk5.size (fun i hi _ => hk5.at_ i ⟨Nat.le_of_lt hi.1, hi.2⟩) (hk5.at_ _ ⟨Nat.le_refl _, HW4.out⟩)
              clear H5 HR4
              have H7 := Lib.hid (hR5.image)
              have hS5 : (DN).S.length = 16 := by rw [HES.out]; exact h16.out
              rw [hS5] at H7
              have HSEC5 := Lib.hid hsec5
              have HR5 := Lib.hid hR5
              obtain ⟨F5, hD5, _⟩ := hR5.own
              have h8 := Disk.dead_ g F5 _ w5 hD5
              have h9 := Disk.pending_ g F5 _ w5 hD5
              rw [HED.out] at h8
              rw [HEP.out] at h9
              have H8 := Lib.hid h8
              have H9 := Lib.hid h9
              clear h8 h9 hR5 hD5 hsec5 hS5 hk5
              go_wp2_with fail
              refine H8.out.mono ?_
              rintro e w' ⟨rfl, rfl⟩
              go_wp2_with fail
              refine H9.out.mono ?_
              rintro e w' ⟨rfl, rfl⟩
              go_wp2_with fail
              refine H7.out.mono ?_
              rintro e w7 ⟨rfl, hsec7, hw7⟩
              have h10 := same_any (some ⟨w5.heap.size, 0, none⟩) (some ⟨wr.heap.size, 0, none⟩) 16 16 16 16 (DN).S D.S w7 (by rw [HES.out]; exact h16.out) h16.out hsec7.img (HSEC5.out.img.below hw7) (by decide) (fun b hb => by have := HR5.out.own; obtain ⟨F, hF, _⟩ := this; rcases hF.ok.sec b hb with rfl | h <;> simp_all) (fun b hb => by have := HR5.out.own; obtain ⟨F, hF, _⟩ := this; rcases hF.ok.sec b (by rw [HES.out]; exact hb) with rfl | h <;> simp_all)
              rw [decide_eq_true HES.out] at h10
              have H10 := Lib.hid h10
              have HR7 := Lib.hid ((HR5.out.below hw7).less (Y := fun _ => False) fun _ h => h.elim)
              clear h10 hsec7 hw7 H7 H8 H9 HR5 HSEC5
              go_wp2_with fail
              refine H10.out.mono ?_
              rintro e w8 ⟨rfl, hw8⟩
              have HINV : Hid (AInv w w8 g n (j + 1) (p + 1)) := Lib.hid ⟨_, HR7.out.below hw8, HAR.out, HPN.out⟩
              clear hw8 H10 HR7
              go_wp2_with fail
              go_roundw
              case rel => exact ⟨j + 1, p + 1, by omega, by omega, by go_num, by first | rfl | go_num, HINV⟩
              case measure => simp [intOf]; omega
            · have h0 : n = 0 ∨ j + 1 < n := by omega
              have n1 : decide ((0 : Int) < (n : Int)) = true := by simp; omega
              have n5 : decide (0 < n) = true := by simp; omega
              have n2 : ((j : Int) == (n : Int) - 1) = false := by simp; omega
              have n3 : decide ((n : Int) ≤ (j : Int)) = false := by simp; omega
              have n4 : decide (n ≤ j) = false := by simp; omega
              have hS0 := HS.out
              obtain ⟨we, wdd, wp, ws, war, be, bdd, bp, bar⟩ := hS0.on h0 (j % 16) (Nat.mod_lt _ (by decide)) [UInt8.ofNat j, 1] (by show 2 ≤ 256; decide)
              have h5 := (HR4.out.below ((Below.refl _ w4).alloc (Nat.le_refl _) (.cells #[.int .u8 ((UInt8.ofNat j).toNat : Int), .int .u8 ((1 : UInt8).toNat : Int)] 5))).write 2 2 _ ((j % 16 : Nat) : Int) [UInt8.ofNat j, 1] rfl (two_bytes w4 _ _) HBD.out.1 HBD.out.2
              rw [we] at h5
              have HAR := Lib.hid war
              have HPN : Hid ((writeD D ((j % 16 : Nat) : Int) [UInt8.ofNat j, 1]).P.length = p + 1) := Lib.hid (by rw [wp, HPL.out])
              have HED := Lib.hid wdd
              have HES := Lib.hid ws
              have HEP := HPN
              clear h0 q1 q2 q3
              clear hS0 we be wdd wp ws war bdd bp bar
              generalize writeD D ((j % 16 : Nat) : Int) [UInt8.ofNat j, 1] = DN at *
              have jm : (j : Int) % 16 = ((j % 16 : Nat) : Int) := by omega
              have jb : IntKind.u8.wrap (j : Int) = ((UInt8.ofNat j).toNat : Int) := by
                rw [IntWalk.u8_in _ ⟨by omega, by omega⟩, UInt8.toNat_ofNat']; omega
              have H5 := Lib.hid h5
              clear h5
              obtain ⟨jb8, hjb8⟩ : ∃ x, ((UInt8.ofNat j).toNat : Int) = x := ⟨_, rfl⟩
              obtain ⟨jm16, hjm⟩ : ∃ x, ((j % 16 : Nat) : Int) = x := ⟨_, rfl⟩
              rw [hjb8] at jb H5
              rw [hjm] at jm H5
              clear hjb8 hjm
              go_wp2_with fail
              refine H5.out.mono ?_
              rintro e w5 ⟨rfl, hR5, hk5⟩
              have hk5 := (Keep.of_below ((Below.refl w4.heap.size w4).alloc (Nat.le_refl _) _) HR4.out.lt).trans hk5
              have hc5 : w5.cell? ⟨gb, off + j, none⟩ = some (.bool true) := (hR5.bel.cell (p := ⟨gb, off + j, none⟩) HGB.out).trans HCB.out
              have hsec5 := HSEC.out.same hk5.size (fun i hi _ => hk5.at_ i ⟨Nat.le_of_lt hi.1, hi.2⟩) (hk5.at_ _ ⟨Nat.le_refl _, HW4.out⟩)
              clear H5 HR4
              have H7 := Lib.hid (hR5.image)
              have hS5 : (DN).S.length = 16 := by rw [HES.out]; exact h16.out
              rw [hS5] at H7
              have HSEC5 := Lib.hid hsec5
              have HR5 := Lib.hid hR5
              obtain ⟨F5, hD5, _⟩ := hR5.own
              have h8 := Disk.dead_ g F5 _ w5 hD5
              have h9 := Disk.pending_ g F5 _ w5 hD5
              rw [HED.out] at h8
              rw [HEP.out] at h9
              have H8 := Lib.hid h8
              have H9 := Lib.hid h9
              clear h8 h9 hR5 hD5 hsec5 hS5 hk5
              go_wp2_with fail
              refine H8.out.mono ?_
              rintro e w' ⟨rfl, rfl⟩
              go_wp2_with fail
              refine H9.out.mono ?_
              rintro e w' ⟨rfl, rfl⟩
              go_wp2_with fail
              refine H7.out.mono ?_
              rintro e w7 ⟨rfl, hsec7, hw7⟩
              have h10 := same_any (some ⟨w5.heap.size, 0, none⟩) (some ⟨wr.heap.size, 0, none⟩) 16 16 16 16 (DN).S D.S w7 (by rw [HES.out]; exact h16.out) h16.out hsec7.img (HSEC5.out.img.below hw7) (by decide) (fun b hb => by have := HR5.out.own; obtain ⟨F, hF, _⟩ := this; rcases hF.ok.sec b hb with rfl | h <;> simp_all) (fun b hb => by have := HR5.out.own; obtain ⟨F, hF, _⟩ := this; rcases hF.ok.sec b (by rw [HES.out]; exact hb) with rfl | h <;> simp_all)
              rw [decide_eq_true HES.out] at h10
              have H10 := Lib.hid h10
              have HR7 := Lib.hid ((HR5.out.below hw7).less (Y := fun _ => False) fun _ h => h.elim)
              clear h10 hsec7 hw7 H7 H8 H9 HR5 HSEC5
              go_wp2_with fail
              refine H10.out.mono ?_
              rintro e w8 ⟨rfl, hw8⟩
              have HINV : Hid (AInv w w8 g n (j + 1) (p + 1)) := Lib.hid ⟨_, HR7.out.below hw8, HAR.out, HPN.out⟩
              clear hw8 H10 HR7
              go_wp2_with fail
              go_roundw
              case rel => exact ⟨j + 1, p + 1, by omega, by omega, by go_num, by first | rfl | go_num, HINV⟩
              case measure => simp [intOf]; omega
    · obtain rfl : j = len := by omega
      have hd1 : decide ((j : Int) < (j : Int)) = false := by simp
      obtain ⟨F, hD, _⟩ := hR.own
      have h5 := Disk.steps_ g F _ wr hD
      rw [hS.steps] at h5
      have HW := Lib.hid (works_any wr)
      have HB := Lib.hid hR.bel
      by_cases h0 : n = 0
      · rw [if_pos h0] at h5
        have H5 := Lib.hid h5
        have n1 : decide ((0 : Int) < (n : Int)) = false := by simp; omega
        have n5 : decide (0 < n) = false := by simp; omega
        clear hR hS hD h5 hpl hI h0
        go_wp2_with fail
        refine H5.out.mono ?_
        rintro e w' ⟨rfl, rfl⟩
        go_wp2_with fail
        refine HW.out.mono ?_
        rintro e w2 ⟨rfl, hb⟩
        have HB2 := Lib.hid (HB.out.trans (hb.mono HB.out.size))
        clear hb
        go_wp2_with fail
        go_ret
        exact ⟨rfl, HB2.out⟩
      · rw [if_neg h0] at h5
        have em : ((min j n : Nat) : Int) = min (j : Int) (n : Int) := by omega
        rw [em] at h5
        have H5 := Lib.hid h5
        have n1 : decide ((0 : Int) < (n : Int)) = true := by simp; omega
        have n5 : decide (0 < n) = true := by simp; omega
        clear hR hS hD h5 hpl hI h0 em
        go_wp2_with fail
        refine H5.out.mono ?_
        rintro e w' ⟨rfl, rfl⟩
        go_wp2_with fail
        refine HW.out.mono ?_
        rintro e w2 ⟨rfl, hb⟩
        have HB2 := Lib.hid (HB.out.trans (hb.mono HB.out.size))
        clear hb
        go_wp2_with fail
        go_ret
        exact ⟨rfl, HB2.out⟩

end Go.Proofs.Ytdohfkblmadejaa
