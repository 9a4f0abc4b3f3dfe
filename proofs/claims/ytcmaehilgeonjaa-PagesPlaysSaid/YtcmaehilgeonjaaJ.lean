/- pages: Turned. -/
import Derived.Test.YtcmaehilgeonjaaI
import Derived.BigQuiet
import Derived.Deep.QuietTactic
namespace Go.Proofs.Ytcmaehilgeonjaa
open Go.RowKit Pgs

namespace Pgs
def turnedTo (L K : List Nat) (k : Nat) : List Nat := (List.range k).filter fun i => decide (partN L i ≠ partN K i)
theorem turnedTo_succ (L K : List Nat) (k : Nat) : turnedTo L K (k + 1) = if partN L k = partN K k then turnedTo L K k else turnedTo L K k ++ [k] := by
  unfold turnedTo
  rw [List.range_succ, List.filter_append]
  by_cases h : partN L k = partN K k
  · rw [if_pos h]; simp [h]
  · rw [if_neg h]; simp [h]
theorem turnedTo_len (L K : List Nat) (k : Nat) : (turnedTo L K k).length ≤ k := by
  unfold turnedTo
  have := List.length_filter_le (fun i => decide (partN L i ≠ partN K i)) (List.range k)
  rw [List.length_range] at this
  exact this
theorem part_eq {L K : List Nat} (hL : Ok L) (hK : Ok K) {i : Nat} (hi : i < 9) (h : ∀ j, j < 124 → L[i * 124 + j]? = K[i * 124 + j]?) : partN L i = partN K i := by
  apply List.ext_getElem?
  intro j
  by_cases hj : j < 124
  · unfold partN
    rw [List.getElem?_take_of_lt hj, List.getElem?_take_of_lt hj, List.getElem?_drop, List.getElem?_drop]
    exact h j hj
  · rw [List.getElem?_eq_none (by rw [partN_len hL hi]; omega), List.getElem?_eq_none (by rw [partN_len hK hi]; omega)]
theorem part_ne {L K : List Nat} {i j : Nat} (hj : j < 124) (h : L[i * 124 + j]? ≠ K[i * 124 + j]?) : partN L i ≠ partN K i := fun e => by
  apply h
  have := congrArg (fun l => l[j]?) e
  unfold partN at this
  simp only [List.getElem?_take_of_lt hj, List.getElem?_drop] at this
  exact this
end Pgs

theorem infoMap2 : (Try.prog.info? 53).map (fun i => (i.zero, i.size)) = some (some (.agg (row16 none_)), 1116) := by kernel_rfl
/-- A map, or none. -/
def PV (w : World) (a : Option Addr) (L : List Nat) : Prop := (a = none ∧ L = none_) ∨ ∃ g, a = some ⟨g, 0, none⟩ ∧ PM w g L
/-- Between the rounds of Turned. -/
structure TuI (w w1 wr : World) (lv : Value) (zs : List Nat) : Prop where
  ints : IntsO wr lv zs
  own : ∀ j, lv.ownBlock = some j → w1.heap.size ≤ j
  bel : Below w1.heap.size w1 wr
theorem TuI.drewN {w w1 wr : World} {lv : Value} {zs : List Nat} (h : TuI w w1 wr lv zs) (q : Nat) : TuI w w1 (wr.drewN q) lv zs :=
  ⟨h.ints.same fun _ _ => rfl, h.own, h.bel.trans ((drewN_below wr q).mono h.bel.size)⟩

theorem TuI.push {w w1 wr : World} {lv : Value} {zs : List Nat} (h : TuI w w1 wr lv zs) (z q : Nat) (hl : zs.length < 1000000) :
    ∃ v' w', (Builtin.append_ #[37, 37] 37 #[lv, .slice (some ⟨wr.heap.size, 0, none⟩) 1 1]).run Try.prog ((wr.drewN q).alloc (.cells #[.int .i64 (z : Int)] 3)) = .ok v' w' ∧ TuI w w1 w' v' (zs ++ [z]) := by
  have h1 := h.drewN q
  have hb : Below wr.heap.size (wr.drewN q) ((wr.drewN q).alloc (.cells #[.int .i64 (z : Int)] 3)) := (Below.refl wr.heap.size (wr.drewN q)).alloc (Nat.le_refl _) _
  have hi2 : IntsO ((wr.drewN q).alloc (.cells #[.int .i64 (z : Int)] 3)) lv zs := h1.ints.same fun k hk => hb.block k (h1.ints.lt k hk)
  obtain ⟨v', w', hrun, hp, hg, ho⟩ := hi2.push z wr.heap.size ((Blk.new (wr.drewN q) 3 #[.int .i64 (z : Int)]).cell 0) hl
  have hsz := h.bel.size
  have hb2 : Below w1.heap.size w1 ((wr.drewN q).alloc (.cells #[.int .i64 (z : Int)] 3)) := h1.bel.trans (hb.mono hsz)
  refine ⟨v', w', hrun, hp, fun j hj => ?_, hb2.grown hg hb2.size (fun j hj => h.own j hj)⟩
  rcases ho with e | e
  · rw [e] at hj; exact h.own j hj
  · rw [e] at hj
    have e2 := Option.some.inj hj
    rw [World.size_alloc] at e2
    have e3 : (wr.drewN q).heap.size = wr.heap.size := rfl
    omega

set_option maxRecDepth 20000 in
set_option maxHeartbeats 4000000 in
theorem turned_any (a b : Option Addr) (L K : List Nat) (w : World) (ha : PV w a L) (hb : PV w b K) :
    Calls Try.prog 24 #[.pointer a, .pointer b] w fun e w' => ∃ lv, e = .returned lv ∧ IntsO w' lv (turnedL L K) ∧ (∀ j, lv.ownBlock = some j → w.heap.size ≤ j) ∧ Below w.heap.size w w' := by
  obtain ⟨hzero, _⟩ := zero_of_info infoMap2
  obtain ⟨Z, hZ⟩ : ∃ Z, row16 none_ = Z := ⟨_, rfl⟩
  rw [hZ] at hzero
  obtain ⟨w1, hw1⟩ : ∃ w1, w.alloc (.cells Z 53) = w1 := ⟨_, rfl⟩
  have hP1 : PM w1 w.heap.size none_ := ⟨by rw [← hw1, hZ]; exact Blk.new _ _ _, none_ok⟩
  have hb1 : Below w.heap.size w w1 := by rw [← hw1]; exact (Below.refl _ _).alloc (Nat.le_refl _) _
  have HB1 := Lib.hid hb1
  have HP1 := Lib.hid hP1
  have HA : Hid (∃ g, PM w1 g L ∧ (a = none ∧ g = w.heap.size ∨ a = some ⟨g, 0, none⟩)) := Lib.hid (by
    rcases ha with ⟨e1, e2⟩ | ⟨g, e1, e2⟩
    · exact ⟨w.heap.size, by rw [e2]; exact hP1, .inl ⟨e1, rfl⟩⟩
    · exact ⟨g, e2.below hb1, .inr e1⟩)
  have HB : Hid (∃ g, PM w1 g K ∧ (b = none ∧ g = w.heap.size ∨ b = some ⟨g, 0, none⟩)) := Lib.hid (by
    rcases hb with ⟨e1, e2⟩ | ⟨g, e1, e2⟩
    · exact ⟨w.heap.size, by rw [e2]; exact hP1, .inl ⟨e1, rfl⟩⟩
    · exact ⟨g, e2.below hb1, .inr e1⟩)
  clear hZ hP1 hb1 ha hb
  go_enter Try.func24, Try.ntmps24
  go_upto_if 10 with fail
  go_cut [0, 10] from 11 to 11 (fun p q wx => ∃ g, p = .pointer (some ⟨g, 0, none⟩) ∧ Hid (PM w1 g L) ∧ wx = w1)
  case first =>
    obtain ⟨g, hP, hor⟩ := HA.out
    rcases hor with ⟨rfl, rfl⟩ | rfl
    · go_wp2_with fail
      go_meet
      exact ⟨_, rfl, Lib.hid hP, rfl⟩
    · go_wp2_with fail
      go_meet
      exact ⟨_, rfl, Lib.hid hP, rfl⟩
  case rest =>
    obtain ⟨g, rfl, hPL, hwc⟩ := hcut
    obtain rfl : w1 = wc := hwc.symm
    go_upto_if 12 with fail
    go_cut [1, 12] from 13 to 13 (fun p q wx => ∃ g, p = .pointer (some ⟨g, 0, none⟩) ∧ Hid (PM w1 g K) ∧ wx = w1)
    case first =>
      obtain ⟨g, hP, hor⟩ := HB.out
      rcases hor with ⟨rfl, rfl⟩ | rfl
      · go_wp2_with fail
        go_meet
        exact ⟨_, rfl, Lib.hid hP, rfl⟩
      · go_wp2_with fail
        go_meet
        exact ⟨_, rfl, Lib.hid hP, rfl⟩
    case rest =>
      obtain ⟨h, rfl, hPK, hwc⟩ := hcut
      obtain rfl : w1 = wc := hwc.symm
      have HT : Hid (TuI w w1 w1 (.slice none 0 0) (turnedTo L K 0)) := Lib.hid ⟨IntsO.nil _, fun j hj => (by cases hj), Below.refl _ _⟩
      clear HA HB hw1 hzero
      go_wp2_with fail
      go_loopw [6, 7, 8, 13] (fun lv pi pk iv wr => ∃ i : Nat, i ≤ 9 ∧ iv = .int .i64 (i : Int) ∧ Hid (TuI w w1 wr lv (turnedTo L K i))) (fun _ _ _ iv _ => 9 - (intOf iv).toNat)
      case atStart => exact ⟨0, Nat.zero_le _, rfl, HT⟩
      case round =>
        clear HT
        obtain ⟨i, hi, rfl, hI⟩ := hrel
        by_cases hlt : i < 9
        · have hd : decide ((i : Int) < 9) = true := by simp; omega
          obtain ⟨Al, cl, hlv, _, _⟩ := hI.out.ints.shape
          have hlen := turnedTo_len L K i
          obtain ⟨nl, hnl⟩ : ∃ nl, (turnedTo L K i).length = nl := ⟨_, rfl⟩
          rw [hnl] at hlv hlen
          subst hlv
          have HNL := Lib.hid hnl
          clear hnl
          go_wp2_with fail
          go_loopw [6, 8] (fun lv kv wx => ∃ j q : Nat, j ≤ 124 ∧ kv = .int .i64 ((i : Int) * 124 + (j : Int)) ∧ lv = .slice Al nl cl ∧ wx = wr.drewN q ∧ Hid (∀ j', j' < j → L[i * 124 + j']? = K[i * 124 + j']?)) (fun _ kv _ => i * 124 + 124 - (intOf kv).toNat)
          case atStart => exact ⟨0, 0, Nat.zero_le _, by simp, rfl, rfl, Lib.hid (fun j' h => by omega)⟩
          case round =>
            obtain ⟨j, q, hj, rfl, rfl, rfl, hE⟩ := hrel
            by_cases hlt2 : j < 124
            · have hd2 : decide ((i : Int) * 124 + (j : Int) < ((i : Int) + 1) * 124) = true := by simp; omega
              obtain ⟨x, hx⟩ : ∃ x, L[i * 124 + j]? = some x := ⟨_, List.getElem?_eq_getElem (by rw [hPL.out.ok.len]; omega)⟩
              obtain ⟨y, hy⟩ : ∃ y, K[i * 124 + j]? = some y := ⟨_, List.getElem?_eq_getElem (by rw [hPK.out.ok.len]; omega)⟩
              have c1 := (hPL.out.below hI.out.bel).cell hx
              have c2 := (hPK.out.below hI.out.bel).cell hy
              have r1 : (0 : Int) ≤ (i : Int) * 124 + (j : Int) := by omega
              have r2 : ((i : Int) * 124 + (j : Int)).toNat = i * 124 + j := by omega
              have r3 : (i : Int) * 124 + (j : Int) < 1116 := by omega
              by_cases hxy : x = y
              · subst hxy
                have hE2 : Hid (∀ j', j' < j + 1 → L[i * 124 + j']? = K[i * 124 + j']?) := Lib.hid (fun j' h' => by
                  by_cases e : j' = j
                  · subst e; rw [hx, hy]
                  · exact hE.out j' (by omega))
                clear hx hy hE
                go_wp2_with fail
                go_quiet (fail)
                go_wp2_with fail
                go_roundw
                case rel => exact ⟨j + 1, _, by omega, by go_num, rfl, rfl, hE2⟩
                case measure => simp [intOf]; omega
              · have hne : ((x : Int) != (y : Int)) = true := by simp; omega
                have hpn : turnedTo L K (i + 1) = turnedTo L K i ++ [i] := by rw [turnedTo_succ, if_neg (part_ne hlt2 (by rw [hx, hy]; simpa using hxy))]
                have hpush := fun q => hI.out.push i q (by rw [HNL.out]; omega)
                have hsh : ∀ q, ∃ A5 c5 w5, (Builtin.append_ #[37, 37] 37 #[.slice Al nl cl, .slice (some ⟨wr.heap.size, 0, none⟩) 1 1]).run Try.prog ((wr.drewN q).alloc (.cells #[.int .i64 (i : Int)] 3)) = .ok (.slice A5 (nl + 1) c5) w5 ∧ TuI w w1 w5 (.slice A5 (nl + 1) c5) (turnedTo L K (i + 1)) := fun q => by
                  obtain ⟨v', w', hrun, hT⟩ := hpush q
                  obtain ⟨A5, c5, e, _, _⟩ := hT.ints.shape
                  rw [List.length_append, HNL.out, List.length_singleton] at e
                  subst e
                  exact ⟨A5, c5, w', hrun, by rw [hpn]; exact hT⟩
                obtain ⟨fA, hA⟩ := Classical.skolem.1 hsh
                obtain ⟨fc, hC⟩ := Classical.skolem.1 hA
                obtain ⟨fw, hW⟩ := Classical.skolem.1 hC
                have hrun := fun q => (hW q).1
                have hT := fun q => (hW q).2
                have HRUN := Lib.hid hrun
                have HT := Lib.hid hT
                clear hx hy hE hpush hrun hT hpn hxy hsh hA hC hW
                go_wp2_with fail
                go_quiet (fail)
                go_wp2_with (at_builtin; refine wpList_app rfl _ _ 37 rfl _ _ _ _ rfl rfl (HRUN.out _) ?_)
                go_roundw
                case rel => exact ⟨i + 1, by omega, by go_num, Lib.hid (HT.out _)⟩
                case measure => simp [intOf]; omega
            · obtain rfl : 124 = j := by omega
              have hd2 : decide ((i : Int) * 124 + ((124 : Nat) : Int) < ((i : Int) + 1) * 124) = false := by simp; omega
              have hI2 : Hid (TuI w w1 (wr.drewN q) (.slice Al nl cl) (turnedTo L K (i + 1))) := Lib.hid (by
                rw [turnedTo_succ, if_pos (part_eq hPL.out.ok hPK.out.ok hlt hE.out)]
                exact hI.out.drewN q)
              go_wp2_with fail
              go_roundw
              case rel => exact ⟨i + 1, by omega, by go_num, hI2⟩
              case measure => simp [intOf]; omega
        · obtain rfl : 9 = i := by omega
          have hd : decide (((9 : Nat) : Int) < 9) = false := by simp
          obtain ⟨Al, cl, hlv, _, _⟩ := hI.out.ints.shape
          go_wp2_with fail
          go_ret
          exact ⟨_, rfl, hI.out.ints, fun j hj => Nat.le_trans HB1.out.size (hI.out.own j hj), HB1.out.trans (hI.out.bel.mono HB1.out.size)⟩
end Go.Proofs.Ytcmaehilgeonjaa
