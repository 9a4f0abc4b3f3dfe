/- pages: the reference's Lay, whole; its Turned. -/
import Derived.Test.YtcmaehilgeonjaaAF
namespace Go.Proofs.Ytcmaehilgeonjaa
open Go.RowKit Pgs
theorem rlay_some (g len c : Nat) (i : Int) (A : Option Addr) (L : List Nat) (bs : List UInt8) (w : World) (h : PR w g L) (hl : bs.length = len) (hA : Bytes w A bs) (hne : 0 < len → ∀ p : Addr, A = some p → p.block ≠ g) :
    Calls Try.prog 33 #[.pointer (some ⟨g, 0, none⟩), .int .i64 i, .slice A len c] w fun e w' => e = .returned (.bool (layB i bs)) ∧ StR w w' g (layL L i bs) := by
  have no : layB i bs = false → StR w w g (layL L i bs) := fun hb => by
    have : layL L i bs = L := by unfold layL; rw [hb]; rfl
    rw [this]; exact ⟨h, Off.refl _ _⟩
  by_cases hi : 0 ≤ i ∧ i < 9
  · obtain ⟨j, rfl⟩ : ∃ j : Nat, i = j := ⟨i.toNat, by omega⟩
    by_cases h1 : len ≤ 248
    · by_cases h2 : len % 2 = 0
      · obtain ⟨n, rfl⟩ : ∃ n, len = 2 * n := ⟨len / 2, by omega⟩
        by_cases he : n = 0 ∨ ∃ x, (said bs)[n - 1]? = some x ∧ x ≠ 0
        · exact rlay_goes g j n c A L bs w h (by omega) (by omega) hl hA (fun h => hne (by omega)) he
        · have h0 : 0 < n := by
            rcases Nat.eq_zero_or_pos n with e | e
            · exact absurd (.inl e) he
            · exact e
          have hx := said_at bs hl (show n - 1 < n by omega)
          have hz : (said bs)[n - 1]? = some 0 := by
            rw [hx]
            congr 1
            by_cases e : (bs.getD (2 * (n - 1)) 0).toNat + 256 * (bs.getD (2 * (n - 1) + 1) 0).toNat = 0
            · exact e
            · exact absurd (.inr ⟨_, hx, e⟩) he
          have hb := layB_end (i := j) hl h0 hz
          refine (rlay_zero g j n c A bs w (by omega) (by omega) h0 hl hA hz).mono ?_
          rintro e w' ⟨rfl, rfl⟩
          exact ⟨by rw [hb], no hb⟩
      · have hb : layB (j : Int) bs = false := by
          unfold layB
          rw [decide_eq_false (p := bs.length % 2 = 0) (by omega), Bool.and_false, Bool.false_and, Bool.false_and]
        refine (rlay_odd g j A len c w (by omega) h1 h2).mono ?_
        rintro e w' ⟨rfl, rfl⟩
        exact ⟨by rw [hb], no hb⟩
    · have hb : layB (j : Int) bs = false := by
        unfold layB
        rw [decide_eq_false (p := bs.length ≤ 248) (by omega), Bool.and_false, Bool.false_and, Bool.false_and, Bool.false_and]
      refine (rlay_long g j A len c w (by omega) (by omega)).mono ?_
      rintro e w' ⟨rfl, rfl⟩
      exact ⟨by rw [hb], no hb⟩
  · have hb : layB i bs = false := by
      unfold layB
      rw [decide_eq_false hi, Bool.false_and, Bool.false_and, Bool.false_and, Bool.false_and]
    refine (rlay_out g i A len c w hi).mono ?_
    rintro e w' ⟨rfl, rfl⟩
    exact ⟨by rw [hb], no hb⟩
theorem RpI.drew {w wr : World} {lv : Value} {zs : List Nat} (h : RpI w wr lv zs) : RpI w wr.drew lv zs := ⟨h.ints.same fun _ _ => rfl, h.own, h.bel.drew⟩
theorem RpI.below {w wr W : World} {lv : Value} {zs : List Nat} (h : RpI w wr lv zs) (hb : Below wr.heap.size wr W) : RpI w W lv zs := ⟨h.ints.same fun k hk => hb.block k (h.ints.lt k hk), h.own, h.bel.trans (hb.mono h.bel.size)⟩
/-- Between the rounds of the reference's Turned. -/
structure TrJ (w W : World) (lv : Value) (zs : List Nat) (g h : Nat) (L K : List Nat) : Prop where
  r : RpI w W lv zs
  L : PR W g L
  K : PR W h K
theorem TrJ.below {w W W' : World} {lv : Value} {zs : List Nat} {g h : Nat} {L K : List Nat} (x : TrJ w W lv zs g h L K) (hb : Below W.heap.size W W') : TrJ w W' lv zs g h L K := ⟨x.r.below hb, x.L.below hb, x.K.below hb⟩
theorem TrJ.drew {w W : World} {lv : Value} {zs : List Nat} {g h : Nat} {L K : List Nat} (x : TrJ w W lv zs g h L K) : TrJ w W.drew lv zs g h L K := ⟨x.r.drew, ⟨x.L.blk, x.L.ok⟩, ⟨x.K.blk, x.K.ok⟩⟩
set_option maxRecDepth 20000 in
set_option maxHeartbeats 4000000 in
theorem rturned_some (g : Nat) (b : Option Addr) (L K : List Nat) (w : World) (ha : PR w g L) (hb : (b = none ∧ K = none_) ∨ ∃ h, b = some ⟨h, 0, none⟩ ∧ PR w h K) :
    Calls Try.prog 25 #[.pointer (some ⟨g, 0, none⟩), .pointer b] w fun e w' => ∃ lv, e = .returned lv ∧ IntsO w' lv (turnedL L K) ∧ (∀ j, lv.ownBlock = some j → w.heap.size ≤ j) ∧ Below w.heap.size w w' := by
  have HA := Lib.hid ha
  have HB := Lib.hid hb
  have HN := Lib.hid (rnew_any w)
  clear ha hb
  go_enter Try.func25, Try.ntmps25
  go_upto_if 11 with fail
  go_cut [1, 11] from 12 to 12 (fun p q wx => ∃ h, p = .pointer (some ⟨h, 0, none⟩) ∧ Hid (PR wx h K ∧ PR wx g L ∧ Below w.heap.size w wx))
  case first =>
    rcases HB.out with ⟨rfl, rfl⟩ | ⟨h, rfl, hP⟩
    · go_wp2_with (go_at_call 12; refine Calls.mono HN.out ?_; rintro e w' ⟨rfl, hP, hb⟩)
      go_meet
      exact ⟨_, rfl, Lib.hid ⟨hP, HA.out.below hb, hb⟩⟩
    · go_wp2_with fail
      go_meet
      exact ⟨_, rfl, Lib.hid ⟨hP, HA.out, Below.refl _ _⟩⟩
  case rest =>
    obtain ⟨h, rfl, hC⟩ := hcut
    have HT : Hid (TrJ wc wc (.slice none 0 0) (turnedTo L K 0) g h L K) := Lib.hid ⟨⟨IntsO.nil _, fun j hj => (by cases hj), Below.refl _ _⟩, hC.out.2.1, hC.out.1⟩
    clear HA HB HN
    go_wp2_with fail
    go_loopw [5, 6] (fun lv iv wr => ∃ i : Nat, i ≤ 9 ∧ iv = .int .i64 (i : Int) ∧ Hid (TrJ wc wr lv (turnedTo L K i) g h L K)) (fun _ iv _ => 9 - (intOf iv).toNat)
    case atStart => exact ⟨0, Nat.zero_le _, rfl, HT⟩
    case round =>
      clear HT
      obtain ⟨i, hi, rfl, hI⟩ := hrel
      by_cases hlt : i < 9
      · have hd : decide ((i : Int) < 9) = true := by simp; omega
        obtain ⟨P1, hP1⟩ : ∃ P1, partB L i = P1 := ⟨_, rfl⟩
        obtain ⟨P2, hP2⟩ : ∃ P2, partB K i = P2 := ⟨_, rfl⟩
        have HC1 : Hid (∀ W, PR W g L → Calls Try.prog 27 #[.pointer (some ⟨g, 0, none⟩), .int .i64 (i : Int)] W fun e w' => ∃ A n c, e = .returned (.slice A n c) ∧ n ≤ c ∧ c ≤ maxLen ∧ P1.length = n ∧ Bytes w' A P1 ∧ Below W.heap.size W w') := Lib.hid fun W hW => by
          have := rpart_some g i L W hW hlt
          rw [hP1] at this
          exact this
        have HC2 : Hid (∀ W, PR W h K → Calls Try.prog 27 #[.pointer (some ⟨h, 0, none⟩), .int .i64 (i : Int)] W fun e w' => ∃ A n c, e = .returned (.slice A n c) ∧ n ≤ c ∧ c ≤ maxLen ∧ P2.length = n ∧ Bytes w' A P2 ∧ Below W.heap.size W w') := Lib.hid fun W hW => by
          have := rpart_some h i K W hW hlt
          rw [hP2] at this
          exact this
        have HE : Hid (P1 = P2 ↔ partN L i = partN K i) := Lib.hid (by rw [← hP1, ← hP2]; exact partB_eq hI.out.L.ok hI.out.K.ok hlt)
        obtain ⟨Al, cl, hlv, _, _⟩ := hI.out.r.ints.shape
        have hlen := turnedTo_len L K i
        obtain ⟨nl, hnl⟩ : ∃ nl, (turnedTo L K i).length = nl := ⟨_, rfl⟩
        rw [hnl] at hlv hlen
        subst hlv
        have HNL := Lib.hid hnl
        have HJ : Hid (TrJ wc wr.drew (.slice Al nl cl) (turnedTo L K i) g h L K) := Lib.hid hI.out.drew
        clear hP1 hP2 hI hnl
        by_cases hpq : partN L i = partN K i
        · have e12 := HE.out.2 hpq
          have hbx : ((str P1).toList == (str P2).toList) = true := by rw [e12]; simp
          have HS : Hid (turnedTo L K (i + 1) = turnedTo L K i) := Lib.hid (by rw [turnedTo_succ, if_pos hpq])
          clear e12 hpq HE
          go_wp2_with fail
          go_region_with (first
            | (go_at_call_of 27 (Value.pointer (some ⟨g, 0, none⟩)); refine Calls.mono (HC1.out _ HJ.out.L) ?_; rintro e w' ⟨A1, n1, c1, rfl, _, _, hl1, hB1, hb1⟩; (first | (have hcv2 := run_str8L w' A2 n2 c2 P2 hl2 (hB2.below hb1)) | skip); have hcv1 := run_str8L w' A1 n1 c1 P1 hl1 hB1; have HJ := Lib.hid (HJ.out.below hb1))
            | (go_at_call_of 27 (Value.pointer (some ⟨h, 0, none⟩)); refine Calls.mono (HC2.out _ HJ.out.K) ?_; rintro e w' ⟨A2, n2, c2, rfl, _, _, hl2, hB2, hb2⟩; (first | (have hcv1 := run_str8L w' A1 n1 c1 P1 hl1 (hB1.below hb2)) | skip); have hcv2 := run_str8L w' A2 n2 c2 P2 hl2 hB2; have HJ := Lib.hid (HJ.out.below hb2)))
          all_goals
            clear HC1 HC2 hl1 hl2 hB1 hB2 hb1 hb2 hcv1 hcv2
            have HI2 : Hid (TrJ wc _ (.slice Al nl cl) (turnedTo L K (i + 1)) g h L K) := Lib.hid (by rw [HS.out]; exact HJ.out)
            clear HJ
            go_wp2_with fail
            go_roundw
            case rel => exact ⟨i + 1, by omega, by go_num, HI2⟩
            case measure => simp [intOf]; omega
        · have e12 : ¬ P1 = P2 := fun e => hpq (HE.out.1 e)
          have hbx : ((str P1).toList == (str P2).toList) = false := by rw [str_toList, str_toList]; simpa using e12
          have HS : Hid (turnedTo L K (i + 1) = turnedTo L K i ++ [i]) := Lib.hid (by rw [turnedTo_succ, if_neg hpq])
          clear e12 hpq HE
          go_wp2_with fail
          go_region_with (first
            | (go_at_call_of 27 (Value.pointer (some ⟨g, 0, none⟩)); refine Calls.mono (HC1.out _ HJ.out.L) ?_; rintro e w' ⟨A1, n1, c1, rfl, _, _, hl1, hB1, hb1⟩; (first | (have hcv2 := run_str8L w' A2 n2 c2 P2 hl2 (hB2.below hb1)) | skip); have hcv1 := run_str8L w' A1 n1 c1 P1 hl1 hB1; have HJ := Lib.hid (HJ.out.below hb1))
            | (go_at_call_of 27 (Value.pointer (some ⟨h, 0, none⟩)); refine Calls.mono (HC2.out _ HJ.out.K) ?_; rintro e w' ⟨A2, n2, c2, rfl, _, _, hl2, hB2, hb2⟩; (first | (have hcv1 := run_str8L w' A1 n1 c1 P1 hl1 (hB1.below hb2)) | skip); have hcv2 := run_str8L w' A2 n2 c2 P2 hl2 hB2; have HJ := Lib.hid (HJ.out.below hb2)))
          all_goals
            clear HC1 HC2 hl1 hl2 hB1 hB2 hb1 hb2 hcv1 hcv2
            obtain ⟨v', w5, hrun, hT5⟩ := HJ.out.r.push i (by rw [HNL.out]; omega)
            obtain ⟨A5, c5, rfl, _, _⟩ := hT5.ints.shape
            have e5 : (turnedTo L K i ++ [i]).length = nl + 1 := by rw [List.length_append, HNL.out]; rfl
            rw [e5] at hrun
            have HI2 : Hid (TrJ wc w5 (.slice A5 (nl + 1) c5) (turnedTo L K (i + 1)) g h L K) := Lib.hid (by
              rw [HS.out, ← e5]
              exact ⟨hT5, hC.out.2.1.below hT5.bel, hC.out.1.below hT5.bel⟩)
            have HRUN := Lib.hid hrun
            clear HJ hrun hT5 e5
            go_wp2_with (at_builtin; refine wpList_app rfl _ _ 37 rfl _ _ _ _ rfl rfl HRUN.out ?_)
            go_roundw
            case rel => exact ⟨i + 1, by omega, by go_num, HI2⟩
            case measure => simp [intOf]; omega
      · obtain rfl : 9 = i := by omega
        have hd : decide (((9 : Nat) : Int) < 9) = false := by simp
        obtain ⟨Al, cl, hlv, _, _⟩ := hI.out.r.ints.shape
        go_wp2_with fail
        go_ret
        exact ⟨_, rfl, hI.out.r.ints, fun j hj => Nat.le_trans hC.out.2.2.size (hI.out.r.own j hj), hC.out.2.2.trans (hI.out.r.bel.mono hC.out.2.2.size)⟩
end Go.Proofs.Ytcmaehilgeonjaa
