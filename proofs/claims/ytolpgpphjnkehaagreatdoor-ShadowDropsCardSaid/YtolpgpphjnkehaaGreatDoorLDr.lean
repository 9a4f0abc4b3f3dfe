/- The law, walked. -/
import Derived.Test.YtolpgpphjnkehaaGreatDoorMI
/- ShadowDrops. -/
namespace Go.Proofs.YtolpgpphjnkehaaGreatDoor
set_option maxRecDepth 20000
open Go.RowKit Cac Dsk
open Pag (PM IntsO)
open Pag.Pgs (got setL clearL partB pagesL sectorsL turnedL partN Ok none_)
/-- How many are free at first. -/
theorem range2_len (n : Nat) (hn : 2 ≤ n) : ((List.range n).filter fun j => decide (2 ≤ j)).length = n - 2 := by
  induction n with
  | zero => omega
  | succ n ih =>
    rw [List.range_succ, List.filter_append]
    rcases Nat.lt_or_ge n 2 with h | h
    · obtain rfl : n = 1 := by omega
      rfl
    · have := ih h
      simp [h]
      omega
theorem free_len (n : Nat) (hn : 2 ≤ n) : (freeL n z9 none_ none_).length = n - 2 := by rw [free_new]; exact range2_len n hn
theorem avail_all {nn : Nat} {L O : List Nat} (hL : Ok L) (hO : Ok O) (h : ∀ p, L.getD p 0 = 0 ∧ O.getD p 0 = 0) (hn : 2 ≤ nn) : (avail nn L O).length = nn - 2 := by
  unfold avail
  rw [show (fun j => decide (2 ≤ j ∧ j ∉ sectorsL L ∧ j ∉ sectorsL O)) = fun j => decide (2 ≤ j) from funext fun j => ?_]
  · exact range2_len nn hn
  · rw [decide_eq_decide, sectors_mem hL, sectors_mem hO]
    constructor
    · exact fun h => h.1
    · intro h2
      refine ⟨h2, ?_, ?_⟩
      · rintro ⟨h0, p, e⟩
        exact h0 (by rw [← e]; exact (h p).1)
      · rintro ⟨h0, p, e⟩
        exact h0 (by rw [← e]; exact (h p).2)
theorem pages_zero {O : List Nat} (h : ∀ p, O.getD p 0 = 0) : pagesL O = [] := by
  unfold pagesL
  rw [List.filter_eq_nil_iff]
  intro j _
  rw [decide_eq_true_eq]
  exact fun h2 => h2 (h j)
/-- A space that a world holds. -/
structure Wd (w wr : World) (n m t wp : Nat) (Z : Array Value) (sp : Nat) (a : Ad) (v : Sv) (D : DS) (Lc : List Fr) (now last : Nat → Option (List UInt8)) : Prop where
  sp_ : Sp w wr (fun k => k = wp) n m t a v D Lc now last
  asp : a.sp = sp
  blk : Blk wr wp 75 Z
section
variable {w wr w' : World} {n m t u wp sp : Nat} {Z : Array Value} {a a' : Ad} {v v' : Sv} {D D' : DS} {Lc Lc' : List Fr} {now last now' last' : Nat → Option (List UInt8)}
theorem Wd.next (h : Wd w wr n m t wp Z sp a v D Lc now last) (h1 : Sp w w' (fun k => k = wp) n m u a' v' D' Lc' now' last') (h2 : a'.sp = a.sp) (hk : Keep (fun k => k = wp) wr w') : Wd w w' n m u wp Z sp a' v' D' Lc' now' last' :=
  ⟨h1, h2.trans h.asp, h.blk.same (hk.at_ wp rfl)⟩
theorem Wd.below (h : Wd w wr n m t wp Z sp a v D Lc now last) (hb : Below wr.heap.size wr w') : Wd w w' n m t wp Z sp a v D Lc now last := ⟨h.sp_.below hb, h.asp, h.blk.below hb h.blk.lt⟩
theorem Wd.cell (h : Wd w wr n m t wp Z sp a v D Lc now last) (hZ : Z[1]? = some (.pointer (some ⟨sp, 0, none⟩))) : wr.cell? ⟨wp, 1, none⟩ = some (.pointer (some ⟨sp, 0, none⟩)) := (h.blk.cell 1).trans hZ
end
/-- A Commit of a byte. -/
theorem commit_lit {w0 w : World} {X : Nat → Prop} {nn most t : Nat} {a : Ad} {v : Sv} {D : DS} {Lc : List Fr} {now last : Nat → Option (List UInt8)} (h : Sp w0 w X nn most t a v D Lc now last) (he : v.ep < 1000000) (hT : Blo.Tab w0) (ht : t < 600000) (n : Nat) (hn : n < 256) :
    Calls Tryz.prog 48 #[.pointer (some ⟨a.sp, 0, none⟩), .slice (some ⟨w.heap.size, 0, none⟩) 1 1] (w.alloc (.cells #[.int .u8 (n : Int)] 5 (1, 2))) fun e w' => e = .returned (.int .i64 0) ∧
      ∃ a' v' D' Lc', Sp w0 w' X nn most (t + 1040) a' v' D' Lc' now now ∧ a'.sp = a.sp ∧ Keep X w w' ∧ v'.ep = v.ep + 1 ∧ v'.M = [UInt8.ofNat n] ∧ v'.L = v.O ∧ v'.O = v.O := by
  have hb := litN w n hn
  have hal : Below w.heap.size w (w.alloc (.cells #[.int .u8 (n : Int)] 5 (1, 2))) := (Below.refl _ _).alloc (Nat.le_refl _) _
  refine ((h.below hal).commit hT (by omega) _ 1 1 [UInt8.ofNat n] rfl hb (fun e => by cases e) (fun p e => ⟨_, 0, (Option.some.inj e).symm⟩)).mono ?_
  rintro e w' ⟨D', Lc', a', v', hk, k3, k4, hc⟩
  rcases hc with ⟨_, q, _⟩ | ⟨_, q, _⟩ | ⟨rfl, _, _, rfl, k5⟩
  · have : [UInt8.ofNat n].length = 1 := rfl
    omega
  · omega
  · exact ⟨rfl, a', _, D', Lc', k5, k3, (Keep.of_below hal h.spc.Xlt).trans hk, rfl, rfl, rfl, rfl⟩
/-- Between the rounds of what is written. -/
def Dr1 (w : World) (n wp sp : Nat) (Z : Array Value) (i : Nat) (wr : World) : Prop :=
  ∃ a v D Lc now last, Wd w wr n 5 (4 + i) wp Z sp a v D Lc now last ∧ v.ep = 1 ∧ v.L = none_ ∧ (∀ p, v.O.getD p 0 ≠ 0 ↔ p < i) ∧ (freeL n v.P v.L v.O).length = n - 2 - i
/-- Between the rounds of what is dropped. -/
def Dr2 (w : World) (n wp sp N : Nat) (Z : Array Value) (j : Nat) (wr : World) : Prop :=
  ∃ a v D Lc now last, Wd w wr n 5 2000 wp Z sp a v D Lc now last ∧ v.ep = 2 ∧ ∀ p, v.O.getD p 0 ≠ 0 ↔ (j ≤ p ∧ p < N)
set_option maxHeartbeats 2000000 in
theorem drops_any (k m : Nat) (w : World) (hk : k < 256) (hm : m < 256) (hT : Blo.Tab w) : Calls Tryz.prog 8 #[.int .u8 (k : Int), .int .u8 (m : Int)] w fun e w' => e = .returned (.bool true) ∧ Below w.heap.size w w' := by
  obtain ⟨n, hn⟩ : ∃ n, 32 + k % 109 = n := ⟨_, rfl⟩
  have hn2 : 32 ≤ n ∧ n ≤ 140 := by omega
  have H1 := Lib.hid (start_any w hT n 5 (by omega) (by decide))
  have hr1 : (k : Int).tmod 109 = ((k % 109 : Nat) : Int) := by rw [Int.tmod_eq_emod_of_nonneg (by omega)]; omega
  have hr2 : (32 : Int) + (((k % 109 : Nat)) : Int) = (n : Int) := by omega
  have hr3 : (32 : Int) + (k : Int) % 109 = (n : Int) := by omega
  have HT := Lib.hid hT
  clear hT hn
  go_enter Tryz.func8, Tryz.ntmps8
  go_wp2_with fail
  refine H1.out.mono ?_
  rintro e w1 ⟨wp, a, rfl, k1, k2, k3⟩
  obtain ⟨sp, hsp⟩ : ∃ sp, a.sp = sp := ⟨_, rfl⟩
  have hZ1 := (wrow_two (some ⟨a.dg, 0, none⟩) (some ⟨a.sp, 0, none⟩)).2
  obtain ⟨Z, hZ⟩ : ∃ Z, wrow (some ⟨a.dg, 0, none⟩) (some ⟨a.sp, 0, none⟩) = Z := ⟨_, rfl⟩
  rw [hZ] at k1 hZ1
  rw [hsp] at hZ1
  have hW1 : Wd w w1 n 5 4 wp Z sp a ⟨1, z9, [], none_, none_, false⟩ (fmtD (newD n)) [] (fun _ => none) (fun _ => none) := ⟨k3, hsp, k1⟩
  have c1 := hW1.cell hZ1
  have H2 := hW1.sp_.room
  rw [hsp] at H2
  have hfl := free_len n (by omega)
  have H2 := Lib.hid H2
  have HZ1 := Lib.hid hZ1
  have HW1 := Lib.hid hW1
  clear k1 k2 k3 hsp hZ1 hZ hW1 H1
  go_wp2_with fail
  refine H2.out.mono ?_
  rintro e w2 ⟨rfl, k4, k5⟩
  have hW2 := HW1.out.next k4 rfl k5
  have HW2 := Lib.hid hW2
  obtain ⟨R, hR⟩ : ∃ R, (freeL n z9 none_ none_).length - 18 = R := ⟨_, rfl⟩
  have hRn : R = n - 20 := by omega
  rw [hR]
  obtain ⟨N, hN⟩ : ∃ N, m % (R + 1) = N := ⟨_, rfl⟩
  have hNR : N ≤ R := by have := Nat.mod_lt m (show 0 < R + 1 by omega); omega
  have hm2 : (m : Int) % ((R : Int) + 1) = (N : Int) := by rw [← hN]; push_cast; rfl
  have hm1 : (m : Int).tmod ((R : Int) + 1) = (N : Int) := by rw [Int.tmod_eq_emod_of_nonneg (by omega)]; exact hm2
  have hm3 : ((R : Int) + 1 == 0) = false := by simp; omega
  have hm4 : (R : Int) + 1 ≠ 0 := by omega
  have HRN := Lib.hid (And.intro hR (And.intro hRn hNR))
  have HI0 : Hid (Dr1 w n wp sp Z 0 w2) := Lib.hid ⟨_, _, _, _, _, _, HW2.out, rfl, rfl, fun p => ⟨fun h => absurd (none_get p) h, fun h => by omega⟩, by show (freeL n z9 none_ none_).length = _; omega⟩
  have hN120 : N ≤ 120 := by omega
  have hR120 : R ≤ 120 := by omega
  clear k4 k5 hW2 hfl hR hN hRn H2 c1 hr1 hr2 hr3
  go_wp2_with fail
  go_loopw [8] (fun iv wr => ∃ i : Nat, i ≤ N ∧ iv = .int .i64 (i : Int) ∧ Hid (Dr1 w n wp sp Z i wr)) (fun iv _ => N - (intOf iv).toNat)
  case atStart => exact ⟨0, Nat.zero_le _, rfl, HI0⟩
  case round =>
    clear HI0
    obtain ⟨i, hi, rfl, hI⟩ := hrel
    obtain ⟨a2, v, D, Lc, now, last, hW, hep, hL, hO, hF⟩ := hI.out
    have c1 := hW.cell HZ1.out
    by_cases hlt : i < N
    · have hd : decide ((i : Int) < (N : Int)) = true := by simpa using hlt
      have hal : Below wr.heap.size wr (wr.alloc (.cells #[.int .u8 1] 5)) := (Below.refl _ _).alloc (Nat.le_refl _) _
      have ca := (hW.below hal).cell HZ1.out
      have HWT := (hW.sp_.below hal).write HT.out (by omega) (i : Int) (some ⟨wr.heap.size, 0, none⟩) 1 1 [1] rfl (Bytes.row (t := 5) (show Blk _ _ _ (row8 [1]) from Blk.new wr _ _))
      rw [hW.asp] at HWT
      have HWT := Lib.hid HWT
      have HW := Lib.hid (And.intro hW (And.intro hep (And.intro hL (And.intro hO (And.intro hF hal)))))
      clear hI hW hep hL hO hF hal
      go_wp2_with fail
      refine HWT.out.mono ?_
      rintro e w4 ⟨D', Lc', a', v', now', q1, q2, q3, q4, q5, q6, q7, q8, hc⟩
      obtain ⟨hW, hep, hL, hO, hF, hal⟩ := HW.out
      have hO0 : v.O.getD i 0 = 0 := by
        by_cases h0 : v.O.getD i 0 = 0
        · exact h0
        · have := (hO i).1 h0; omega
      obtain ⟨rfl, hnext⟩ : e = .returned (.int .i64 0) ∧ Dr1 w n wp sp Z (i + 1) w4 := by
        rcases hc with ⟨_, q, _⟩ | ⟨_, _, q, _⟩ | ⟨_, _, _, q, _⟩ | ⟨s, _, _, _, _, qs, rfl, qO, _⟩
        · rcases q with q | q
          · exact absurd (show (0 : Int) ≤ (i : Int) ∧ (i : Int) < 1024 by omega) q
          · have : ([1] : List UInt8).length = 1 := rfl
            omega
        · exact absurd (trn_true hW.sp_.gd.geo.okO hW.sp_.gd.geo.okL q).1 (fun h => h hO0)
        · have := HRN.out.2.1; omega
        · have hs := List.mem_of_getElem? qs
          have hs2 := (free_mem hW.sp_.gd.geo.okL hW.sp_.gd.geo.okO).1 hs
          have hg := fun p => setL_get hW.sp_.gd.geo.okO (p := i) (s := s) (by omega) (by omega) p
          have hfl := free_put_len hW.sp_.gd.geo.okL hW.sp_.gd.geo.okO (by omega) (p := i) (by omega) hs (.inl hO0)
          refine ⟨rfl, a', v', D', Lc', now', _, (hW.below hal).next q1 q3 q2, q5.trans hep, q8.trans hL, fun p => ?_, ?_⟩
          · rw [qO, hg]
            by_cases e : p = i
            · rw [if_pos e]; omega
            · rw [if_neg e, hO]; omega
          · rw [q6, q8, qO]; omega
      have HNX := Lib.hid hnext
      clear hc q1 q2 q3 q4 q5 q6 q7 q8 hW hep hL hO hF hal hO0 hnext HWT
      go_wp2_with fail
      go_roundw
      case rel => exact ⟨i + 1, by omega, by go_num, HNX⟩
      case measure => simp [intOf]; omega
    · obtain rfl : i = N := by omega
      obtain ⟨w5, rfl⟩ : ∃ v, v = wr := ⟨_, rfl⟩
      have hd : decide ((i : Int) < (i : Int)) = false := by simp
      have HC := hW.sp_.commit HT.out (by omega) none 0 0 [] rfl (Bytes.nil _ _) (fun _ => ⟨rfl, rfl⟩) (fun p e => by cases e)
      rw [hW.asp] at HC
      have HC := Lib.hid HC
      have HW := Lib.hid (And.intro hW (And.intro hep hO))
      clear hI hlt hW hep hL hO hF
      go_wp2_with fail
      refine HC.out.mono ?_
      rintro e w6 ⟨D', Lc', a', v', q2, q3, q4, hc⟩
      obtain ⟨rfl, hnext⟩ : e = .returned (.int .i64 0) ∧ Dr2 w n wp sp i Z 0 w6 := by
        obtain ⟨hW, hep, hO⟩ := HW.out
        rcases hc with ⟨_, q, _⟩ | ⟨_, q, _⟩ | ⟨rfl, _, _, rfl, q1⟩
        · have : ([] : List UInt8).length = 0 := rfl
          omega
        · omega
        · refine ⟨rfl, a', _, D', Lc', _, _, hW.next (q1.mono (by omega)) (by rw [hW.asp]; exact q3) q2, by show v.ep + 1 = 2; omega, fun p => ?_⟩
          show v.O.getD p 0 ≠ 0 ↔ _
          rw [hO]; omega
      have HNX := Lib.hid hnext
      clear hc q2 q3 q4 hnext HC c1
      obtain ⟨N, hNN⟩ : ∃ N, i = N := ⟨_, rfl⟩
      rw [hNN] at hN120 hm2 hm1 hd HNX HRN ⊢
      clear hNN hm1 hm2 hm3 hm4 hi HW hd
      go_wp2_with fail
      go_loopw [9] (fun iv wr => ∃ j : Nat, j ≤ N ∧ iv = .int .i64 (j : Int) ∧ Hid (Dr2 w n wp sp N Z j wr)) (fun iv _ => N - (intOf iv).toNat)
      case atStart => exact ⟨0, Nat.zero_le _, rfl, HNX⟩
      case round =>
        clear HNX
        obtain ⟨j, hj, rfl, hI⟩ := hrel
        obtain ⟨a2, v, D, Lc, now, last, hW, hep, hO⟩ := hI.out
        have c1 := hW.cell HZ1.out
        by_cases hlt : j < N
        · have hd : decide ((j : Int) < (N : Int)) = true := by simpa using hlt
          have HD := hW.sp_.drop (j : Int)
          have hE : dropE v.O (j : Int) = 0 := by
            unfold dropE
            rw [if_pos (by omega), if_pos]
            unfold Pag.Pgs.clearB
            rw [got_nat hW.sp_.gd.geo.okO]
            exact decide_eq_true ((hO j).2 ⟨Nat.le_refl _, hlt⟩)
          rw [hW.asp, hE] at HD
          have HD := Lib.hid HD
          have HW := Lib.hid (And.intro hW (And.intro hep hO))
          clear hI hW hep hO hE
          go_wp2_with fail
          refine HD.out.mono ?_
          rintro e w7 ⟨rfl, a3, fr3, q1, q2, q3, _⟩
          have hW3 := HW.out.1.next q1 (by rw [HW.out.1.asp]; exact q3) q2
          have hg := fun p => clearL_get HW.out.1.sp_.gd.geo.okO j p
          have c2 := hW3.cell HZ1.out
          have HD2 := hW3.sp_.drop (j : Int)
          have hE2 : dropE (clearL v.O (j : Int)) (j : Int) = 7 := by
            unfold dropE
            rw [if_pos (by omega), if_neg]
            unfold Pag.Pgs.clearB
            rw [got_nat (Pag.Pgs.clearL_ok HW.out.1.sp_.gd.geo.okO _), hg, if_pos rfl]
            decide
          change Calls _ _ _ _ (fun e w' => e = .returned (.int .i64 (dropE (clearL v.O (j : Int)) (j : Int))) ∧ _) at HD2
          rw [hW3.asp, hE2] at HD2
          have HD2 := Lib.hid HD2
          have HW3 := Lib.hid (And.intro hW3 hg)
          clear q1 q2 q3 hW3 hg hE2 HD
          go_wp2_with fail
          refine HD2.out.mono ?_
          rintro e w8 ⟨rfl, a4, fr4, q1, q2, q3, _⟩
          have HNX : Hid (Dr2 w n wp sp N Z (j + 1) w8) := Lib.hid (by
            refine ⟨a4, _, _, _, _, _, HW3.out.1.next q1 (by rw [HW3.out.1.asp]; exact q3) q2, HW.out.2.1, fun p => ?_⟩
            show (clearL (clearL v.O (j : Int)) (j : Int)).getD p 0 ≠ 0 ↔ _
            rw [clearL_get (Pag.Pgs.clearL_ok HW.out.1.sp_.gd.geo.okO _), HW3.out.2]
            by_cases e : p = j
            · rw [if_pos e]; omega
            · rw [if_neg e, if_neg e, HW.out.2.2]; omega)
          clear q1 q2 q3 HD2
          go_wp2_with fail
          go_roundw
          case rel => exact ⟨j + 1, by omega, by go_num, HNX⟩
          case measure => simp [intOf]; omega
        · obtain rfl : j = N := by omega
          obtain ⟨w7, rfl⟩ : ∃ v, v = wr := ⟨_, rfl⟩
          have hd : decide ((j : Int) < (j : Int)) = false := by simp
          have HC := commit_lit hW.sp_ (by omega) HT.out (by omega) 120 (by decide)
          rw [hW.asp, show ((120 : Nat) : Int) = (120 : Int) from rfl] at HC
          have hcv := run_lit 120 w7
          have HC := Lib.hid HC
          have HW := Lib.hid (And.intro hW hO)
          clear hI hlt hW hep hO
          go_wp2_with fail
          refine HC.out.mono ?_
          rintro e w8 ⟨rfl, a3, v3, D3, L3, q1, q2, q3, q4, q5, q6, q7⟩
          have hW8 := HW.out.1.next q1 (by rw [HW.out.1.asp]; exact q2) q3
          have c8 := hW8.cell HZ1.out
          have hz : ∀ p, v3.O.getD p 0 = 0 := fun p => by
            rw [q7]
            by_cases h0 : v.O.getD p 0 = 0
            · exact h0
            · have := (HW.out.2 p).1 h0; omega
          have hzL : ∀ p, v3.L.getD p 0 = 0 := fun p => by rw [q6, ← q7]; exact hz p
          have HP := hW8.sp_.spc.pages
          rw [hW8.asp, pages_zero hz] at HP
          have HP := Lib.hid HP
          have hav := avail_all hW8.sp_.gd.geo.okL hW8.sp_.gd.geo.okO (fun p => ⟨hzL p, hz p⟩) (show 2 ≤ n by omega)
          have hfl := free_le n v3.P v3.L v3.O
          rw [hW8.sp_.gd.geo.pl, hav] at hfl
          have HF := Lib.hid hfl
          have HW8 := Lib.hid hW8
          clear q1 q2 q3 q4 q5 q6 q7 hW8 hz hzL hav hfl HC
          go_wp2_with fail
          refine HP.out.mono ?_
          rintro e w9 ⟨Ap, cp, rfl, _, _, r4⟩
          have hW9 := HW8.out.below r4
          have c9 := hW9.cell HZ1.out
          have HR1 := hW9.sp_.room
          obtain ⟨R2, hR2⟩ : ∃ R2, (freeL n v3.P v3.L v3.O).length - 18 = R2 := ⟨_, rfl⟩
          rw [hW9.asp, hR2] at HR1
          have HR1 := Lib.hid HR1
          have HR2 := Lib.hid hR2
          have HW9 := Lib.hid hW9
          have hle : decide ((R2 : Int) ≤ (R : Int)) = true := by have h1 := HF.out.1; have h2 := HRN.out.2.1; simp; omega
          have hge : decide ((R2 : Int) ≥ (R : Int) - 9) = true := by have h1 := HF.out.2; have h2 := HRN.out.2.1; simp; omega
          have hle2 : decide (R2 ≤ R) = true := by have h1 := HF.out.1; have h2 := HRN.out.2.1; simp; omega
          clear r4 hW9 hR2 HP c8
          go_wp2_with fail
          refine HR1.out.mono ?_
          rintro e w10 ⟨rfl, r1, r2⟩
          have hW10 := HW9.out.next r1 rfl r2
          have c10 := hW10.cell HZ1.out
          have HR3 := hW10.sp_.room
          change Calls _ _ _ _ (fun e w' => e = .returned (.int .i64 (((freeL n v3.P v3.L v3.O).length - 18 : Nat) : Int)) ∧ _) at HR3
          rw [hW10.asp, HR2.out] at HR3
          have HR3 := Lib.hid HR3
          have HW10 := Lib.hid hW10
          clear r1 r2 hW10 HR1 c9
          go_wp2_with fail
          refine HR3.out.mono ?_
          rintro e w11 ⟨rfl, r1, _⟩
          have HWK := Lib.hid (works_any w11 (tab_at HT.out r1.spc.bel))
          have HB := Lib.hid r1.spc.bel
          clear r1 HR3 c10
          go_wp2_with fail
          refine HWK.out.mono ?_
          rintro e w12 ⟨rfl, r1⟩
          go_wp2_with fail
          go_ret
          exact ⟨rfl, HB.out.trans (r1.mono HB.out.size)⟩
end Go.Proofs.YtolpgpphjnkehaaGreatDoor
