/- slots.page. -/
import Derived.Test.YtipjokbkgcepbaaG
namespace Go.Proofs.Ytipjokbkgcepbaa
open Go.RowKit Slt

theorem trim_step {l : List (List UInt8)} {k : Nat} (h : l[k]? = some []) : trim (l.take (k + 1)) = trim (l.take k) := by
  obtain ⟨hk, e⟩ := List.getElem?_eq_some_iff.1 h
  rw [List.take_succ_eq_append_getElem hk, e, trim_snoc_nil]
theorem trim_stop {l : List (List UInt8)} {k : Nat} {r : List UInt8} (h : l[k]? = some r) (hr : 0 < r.length) : trim (l.take (k + 1)) = l.take (k + 1) := by
  obtain ⟨hk, e⟩ := List.getElem?_eq_some_iff.1 h
  rw [List.take_succ_eq_append_getElem hk, e, trim_snoc _ _ hr]

/-- Bytes of the call's own. -/
structure Own8 (w0 w : World) (v : Value) (bs : List UInt8) : Prop where
  own : w.ownsRow w0.heap.size 5 1 v bs.length (bs.map bv)
  bel : Below w0.heap.size w0 w
theorem Own8.shape {w0 w : World} {v : Value} {bs : List UInt8} (h : Own8 w0 w v bs) : ∃ A c, v = .slice A bs.length c := by
  rcases h.own.2 with ⟨rfl, e⟩ | ⟨g, cap, cur, rfl, _⟩
  · exact ⟨none, 0, by rw [e]⟩
  · exact ⟨_, cap, rfl⟩
theorem Own8.app {w0 w : World} {v : Value} {bs : List UInt8} (h : Own8 w0 w v bs) (A : Option Addr) (len c : Nat) (xs : List UInt8) (hl : xs.length = len) (hA : Bytes w A xs) (hb : bs.length + len ≤ 1000000) :
    ∃ v' w', (Builtin.append_ #[22, 22] 22 #[v, .slice A len c]).run Try.prog w = .ok v' w' ∧ Own8 w0 w' v' (bs ++ xs) := by
  obtain ⟨v', w', hrun, ho, hg⟩ := run_app8 w w0.heap.size v bs.length bs h.own A len c xs hl hA (by omega) h.bel.size
  refine ⟨v', w', hrun, ⟨by rw [List.length_append, hl]; exact ho, h.bel.grown hg h.bel.size (fun k hk => ?_)⟩⟩
  exact (h.own.lt k hk).1
theorem Own8.app1 {w0 w : World} {v : Value} {bs : List UInt8} (h : Own8 w0 w v bs) (x : UInt8) (hb : bs.length ≤ 999999) :
    ∃ v' w', (Builtin.append_ #[22, 22] 22 #[v, .slice (some ⟨w.heap.size, 0, none⟩) 1 1]).run Try.prog (w.alloc (.cells #[.int .u8 (x.toNat : Int)] 5)) = .ok v' w' ∧ Own8 w0 w' v' (bs ++ [x]) :=
  Own8.app (w := w.alloc (.cells #[.int .u8 (x.toNat : Int)] 5)) ⟨own_below h.own ((Below.refl _ w).alloc (Nat.le_refl _) _), h.bel.alloc h.bel.size _⟩ (some ⟨w.heap.size, 0, none⟩) 1 1 [x] rfl (Bytes.row (bs := [x]) (Blk.new w _ _)) (by omega)
theorem Own8.one (w : World) (x : UInt8) : Own8 w (w.alloc (.cells #[.int .u8 (x.toNat : Int)] 5)) (.slice (some ⟨w.heap.size, 0, none⟩) 1 1) [x] :=
  ⟨⟨rfl, .inr ⟨w.heap.size, 1, #[.int .u8 (x.toNat : Int)], rfl, Nat.le_refl _, Blk.new w _ _, Nat.le_refl _, by decide, rfl, rfl⟩⟩, (Below.refl _ w).alloc (Nat.le_refl _) _⟩
theorem Own8.rw_ {w0 w : World} {v : Value} {bs : List UInt8} (h : Own8 w0 w v bs) (h0 : 0 < bs.length) : ∃ g c, v = .slice (some ⟨g, 0, none⟩) bs.length c ∧ Rw w g bs.length c bs ∧ w0.heap.size ≤ g := by
  have ho := h.own
  rcases ho.2 with ⟨rfl, e⟩ | ⟨g, cap, cur, rfl, hg, _⟩
  · omega
  · exact ⟨g, cap, rfl, Rw.of_own ho, hg⟩

theorem u8_nat (n : Nat) : (n : Int) % 256 = ((UInt8.ofNat n).toNat : Int) := by
  rw [UInt8.toNat_ofNat']; rfl
theorem lenB_succ {t : List (List UInt8)} {j : Nat} {s : List UInt8} (h : t[j]? = some s) : lenB (t.take (j + 1)) = lenB (t.take j) ++ [UInt8.ofNat s.length] := by
  obtain ⟨hj, rfl⟩ := List.getElem?_eq_some_iff.1 h
  rw [List.take_succ_eq_append_getElem hj, lenB, List.map_append]; rfl
theorem flat_succ {t : List (List UInt8)} {j : Nat} {s : List UInt8} (h : t[j]? = some s) : (t.take (j + 1)).flatten = (t.take j).flatten ++ s := by
  obtain ⟨hj, rfl⟩ := List.getElem?_eq_some_iff.1 h
  rw [List.take_succ_eq_append_getElem hj, List.flatten_append]; simp
theorem flat_take_le (t : List (List UInt8)) (j : Nat) : (t.take j).flatten.length ≤ t.flatten.length := by
  have e := congrArg (fun l : List (List UInt8) => l.flatten.length) (List.take_append_drop j t)
  simp only [List.flatten_append, List.length_append] at e
  omega

set_option maxRecDepth 20000 in
set_option maxHeartbeats 2000000 in
theorem page_any (A : Option Addr) (n cap : Nat) (rows : List (List UInt8)) (w : World) (hn : rows.length = n) (hcap : n ≤ cap) (hcm : cap ≤ maxLen) (hI : Img w A rows) (hb : 1 + rows.length + rows.flatten.length ≤ 1000000) :
    Calls Try.prog 37 #[.slice A n cap] w fun e w' => ∃ g c, e = .returned (.slice (some ⟨g, 0, none⟩) (pageOf rows).length c) ∧ Rw w' g (pageOf rows).length c (pageOf rows) ∧ w.heap.size ≤ g ∧ Below w.heap.size w w' := by
  unfold maxLen at hcm
  have HI := Lib.hid hI
  have HN := Lib.hid hn
  have HB := Lib.hid hb
  have hn6 : n ≤ 1000000 := by omega
  have HST : Hid (trim (rows.take n) = trim rows) := Lib.hid (by rw [List.take_of_length_le (by omega)])
  obtain ⟨P, hP⟩ : ∃ P, pageOf rows = P := ⟨_, rfl⟩
  rw [hP]
  have HP := Lib.hid hP
  clear hI hn hb hP
  go_enter Try.func37, Try.ntmps37
  go_wp2
  go_loop [0] (fun v => ∃ m : Nat, m ≤ n ∧ v = .slice A m cap ∧ Hid (trim (rows.take m) = trim rows)) (fun v => lenV v)
  case atStart => exact ⟨n, Nat.le_refl _, rfl, HST⟩
  case round =>
    obtain ⟨m, hm, rfl, hT⟩ := hrel
    clear HST
    by_cases h0 : m = 0
    · subst h0
      have hpg : pageOf rows = [0] := by
        unfold pageOf; rw [← hT.out]; rfl
      have HO := Lib.hid (Own8.one w 0)
      have hP0 : P = [0] := HP.out.symm.trans hpg
      have HP0 := Lib.hid hP0
      have d1 : decide ((0 : Int) < 0) = false := by decide
      clear hT hpg hP0
      go_wp2
      go_loopw [3, 5, 32] (fun v g i wr => i = .int .i64 0 ∧ v = .slice (some ⟨w.heap.size, 0, none⟩) 1 1 ∧ Hid (Own8 w wr (.slice (some ⟨w.heap.size, 0, none⟩) 1 1) [0])) (fun _ _ _ _ => 0)
      case atStart => exact ⟨rfl, rfl, HO⟩
      case round =>
        obtain ⟨rfl, rfl, hO⟩ := hrel
        clear HO
        go_wp2
        obtain ⟨w1, rfl⟩ : ∃ w1, w1 = wr := ⟨wr, rfl⟩
        go_loopw [3, 7, 45] (fun v g i wr => i = .int .i64 0 ∧ v = .slice (some ⟨w.heap.size, 0, none⟩) 1 1 ∧ Hid (Own8 w wr (.slice (some ⟨w.heap.size, 0, none⟩) 1 1) [0])) (fun _ _ _ _ => 0)
        case atStart => exact ⟨rfl, rfl, hO⟩
        case round =>
          obtain ⟨rfl, rfl, hO2⟩ := hrel
          clear hO
          go_wp2
          go_ret
          obtain ⟨g, c, e, h1, h2⟩ := hO2.out.rw_ (by decide)
          injection e with e1 e2 e3
          rw [HP0.out]
          exact ⟨g, c, by rw [e1, ← e3]; rfl, h1, h2, hO2.out.bel⟩
    · obtain ⟨k, rfl⟩ : ∃ k, m = k + 1 := ⟨m - 1, by omega⟩
      obtain ⟨r, hr⟩ : ∃ r, rows[k]? = some r := ⟨_, List.getElem?_eq_getElem (by rw [HN.out]; omega)⟩
      obtain ⟨b, off, v, rfl, hblt, hc, A2, c2, rfl, hl2, hm2, hby, _⟩ := HI.out k r hr
      have d1 : decide ((0 : Int) < (k : Int) + 1) = true := decide_eq_true (by omega)
      by_cases hr0 : r = []
      · subst hr0
        have HT2 : Hid (trim (rows.take k) = trim rows) := Lib.hid ((trim_step hr).symm.trans hT.out)
        clear hT hr hby
        go_wp2
        go_round
        case rel => exact ⟨k, by omega, rfl, HT2⟩
        case measure => simp [lenV]
      · have hrl : 0 < r.length := List.length_pos_iff.2 hr0
        have htk : rows.take (k + 1) = trim rows := (trim_stop hr hrl).symm.trans hT.out
        obtain ⟨L, hL⟩ : ∃ L, r.length = L := ⟨_, rfl⟩
        rw [hL] at hc hrl
        have d2 : ((L : Int) == 0) = false := by simp; omega
        have hpg : pageOf rows = pack (rows.take (k + 1)) := by unfold pageOf; rw [htk]
        have hu := u8_nat (k + 1)
        rw [Int.natCast_add, Int.natCast_one] at hu
        have HO := Lib.hid (Own8.one w (UInt8.ofNat (k + 1)))
        obtain ⟨t, ht⟩ : ∃ t, rows.take (k + 1) = t := ⟨_, rfl⟩
        have htl : t.length = k + 1 := by rw [← ht, List.length_take]; have := HN.out; omega
        have HTL := Lib.hid htl
        have HT := Lib.hid ht
        have HPK : Hid (P = pack t) := Lib.hid (HP.out.symm.trans (hpg.trans (by rw [ht])))
        have HFL : Hid (1 + t.length + t.flatten.length ≤ 1000000) := Lib.hid (by
          have h1 := HB.out
          have h2 : t.flatten.length ≤ rows.flatten.length := by
            have e : rows = t ++ rows.drop (k + 1) := by rw [← ht, List.take_append_drop]
            have := congrArg (fun l : List (List UInt8) => l.flatten.length) e
            simp only [List.flatten_append, List.length_append] at this
            omega
          have := HN.out
          omega)
        obtain ⟨x0, hx0⟩ : ∃ x, UInt8.ofNat (k + 1) = x := ⟨_, rfl⟩
        rw [hx0] at hu HO
        have HX0 := Lib.hid hx0
        have HTG : Hid (∀ (j : Nat) (s : List UInt8), t[j]? = some s → j < k + 1 → rows[j]? = some s) := Lib.hid fun j s hs hj => by
          rw [← HT.out, List.getElem?_take_of_lt hj] at hs; exact hs
        clear hT htk hpg ht htl hL hby hx0 hr hr0 hl2
        go_wp2
        go_loopw [3, 5, 32] (fun v g i wr => ∃ j : Nat, j ≤ k + 1 ∧ i = .int .i64 (j : Int) ∧ Hid (Own8 w wr v (x0 :: lenB (t.take j)))) (fun _ _ i _ => k + 1 - (intOf i).toNat)
        case atStart => exact ⟨0, Nat.zero_le _, rfl, HO⟩
        case round =>
          obtain ⟨j, hj, rfl, hO⟩ := hrel
          clear HO hc d2
          by_cases hlt : j < k + 1
          · have hd : decide ((j : Int) < (k : Int) + 1) = true := by simp; omega
            obtain ⟨s, hs⟩ : ∃ s, t[j]? = some s := ⟨_, List.getElem?_eq_getElem (by rw [HTL.out]; exact hlt)⟩
            obtain ⟨b', off', v', e', hblt', hc', A3, c3, rfl, _, _, hby3, _⟩ := HI.out j s (HTG.out j s hs hlt)
            cases e'
            have hc3 := (hO.out.bel.cell (p := ⟨b, off + j, none⟩) hblt').trans hc'
            have hls := lenB_succ hs
            have hu2 := u8_nat s.length
            obtain ⟨v5, w5, hrun, hO5⟩ := hO.out.app1 (UInt8.ofNat s.length) (by have h1 := HFL.out; have h2 := HTL.out; simp only [List.length_cons, lenB, List.length_map, List.length_take]; omega)
            obtain ⟨A4, c4, hsh⟩ := hO.out.shape
            obtain ⟨n4, hn4⟩ : ∃ n4, (x0 :: lenB (t.take j)).length = n4 := ⟨_, rfl⟩
            rw [hn4] at hsh
            subst hsh
            rw [List.cons_append, ← hls] at hO5
            have HO5 := Lib.hid hO5
            obtain ⟨y, hy⟩ : ∃ y, UInt8.ofNat s.length = y := ⟨_, rfl⟩
            rw [hy] at hu2 hrun
            obtain ⟨sl, hsl⟩ : ∃ sl, s.length = sl := ⟨_, rfl⟩
            rw [hsl] at hu2 hc3
            have HRUN := Lib.hid hrun
            clear hrun hO5 hls hO hc' hby3 hn4 hy hsl hs
            go_wp2_with (at_builtin; refine wpList_app rfl _ _ 22 rfl _ _ _ _ rfl rfl HRUN.out ?_; clear HRUN)
            go_roundw
            case rel => exact ⟨j + 1, by omega, by go_num, HO5⟩
            case measure => simp [intOf]; omega
          · obtain rfl : j = k + 1 := by omega
            have hd : decide ((k : Int) + 1 < (k : Int) + 1) = false := by simp
            have hO1 := hO.out
            rw [List.take_of_length_le (by rw [HTL.out]; exact Nat.le_refl _)] at hO1
            have HO1 : Hid (Own8 w wr u3 (x0 :: (lenB t ++ (t.take 0).flatten))) := Lib.hid (by simpa using hO1)
            clear hO hO1
            go_wp2
            obtain ⟨w1, rfl⟩ : ∃ w1, w1 = wr := ⟨wr, rfl⟩
            go_loopw [3, 7, 45] (fun v g i wr => ∃ j : Nat, j ≤ k + 1 ∧ i = .int .i64 (j : Int) ∧ Hid (Own8 w wr v (x0 :: (lenB t ++ (t.take j).flatten)))) (fun _ _ i _ => k + 1 - (intOf i).toNat)
            case atStart => exact ⟨0, Nat.zero_le _, rfl, HO1⟩
            case round =>
              obtain ⟨j, hj, rfl, hO⟩ := hrel
              clear HO1
              by_cases hlt : j < k + 1
              · have hd : decide ((j : Int) < (k : Int) + 1) = true := by simp; omega
                obtain ⟨s, hs⟩ : ∃ s, t[j]? = some s := ⟨_, List.getElem?_eq_getElem (by rw [HTL.out]; exact hlt)⟩
                obtain ⟨b', off', v', e', hblt', hc', A3, c3, rfl, _, _, hby3, _⟩ := HI.out j s (HTG.out j s hs hlt)
                cases e'
                have hc3 := (hO.out.bel.cell (p := ⟨b, off + j, none⟩) hblt').trans hc'
                have hls := flat_succ hs
                obtain ⟨sl, hsl⟩ : ∃ sl, s.length = sl := ⟨_, rfl⟩
                obtain ⟨v5, w5, hrun, hO5⟩ := hO.out.app A3 sl c3 s hsl (hby3.below hO.out.bel) (by
                  have h1 := HFL.out
                  have h2 := flat_take_le t (j + 1)
                  rw [hls, List.length_append] at h2
                  simp only [List.length_append, List.length_cons, lenB, List.length_map]
                  omega)
                obtain ⟨A4, c4, hsh⟩ := hO.out.shape
                obtain ⟨n4, hn4⟩ : ∃ n4, (x0 :: (lenB t ++ (t.take j).flatten)).length = n4 := ⟨_, rfl⟩
                rw [hn4] at hsh
                subst hsh
                rw [List.cons_append, List.append_assoc, ← hls] at hO5
                have HO5 := Lib.hid hO5
                rw [hsl] at hc3
                have HRUN := Lib.hid hrun
                clear hrun hO5 hls hO hc' hby3 hn4 hsl hs
                go_wp2_with (at_builtin; refine wpList_app rfl _ _ 22 rfl _ _ _ _ rfl rfl HRUN.out ?_; clear HRUN)
                go_roundw
                case rel => exact ⟨v5, .slice A3 sl c3, .int .i64 ((j : Int) + 1), ⟨j + 1, by omega, by go_num, HO5⟩, rfl, rfl, rfl⟩
                case measure => simp [intOf]; omega
              · obtain rfl : j = k + 1 := by omega
                have hd : decide ((k : Int) + 1 < (k : Int) + 1) = false := by simp
                have hO1 := hO.out
                rw [List.take_of_length_le (by rw [HTL.out]; exact Nat.le_refl _)] at hO1
                have hpk : x0 :: (lenB t ++ t.flatten) = P := by
                  rw [HPK.out]; unfold pack; rw [HTL.out, HX0.out]; rfl
                rw [hpk] at hO1
                have HO1 := Lib.hid hO1
                have HPL : Hid (0 < P.length) := Lib.hid (by rw [← hpk]; simp)
                clear hO hO1 hpk
                go_wp2
                go_ret
                obtain ⟨g, c, rfl, h1, h2⟩ := HO1.out.rw_ HPL.out
                exact ⟨g, c, rfl, h1, h2, HO1.out.bel⟩
end Go.Proofs.Ytipjokbkgcepbaa
