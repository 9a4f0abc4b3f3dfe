/- TokenBack: Text. -/
import Derived.Test.YtdnmdccjecoojaaDoorMw
namespace Go.Proofs.YtdnmdccjecoojaaDoor
open Go.RowKit Tok
/-- Between the rounds of Text. -/
structure TxI (w wr : World) (xs : List UInt8) (ov : Value) : Prop where
  bel : Below w.heap.size w wr
  own : wr.ownsRow w.heap.size 5 1 ov xs.length (xs.map bv)
theorem TxI.new {w w1 : World} {c : UInt8} {cv : Value} (hcv : bv c = cv) (h : w.alloc (.cells #[cv] 5) = w1) : TxI w w1 [c] (.slice (some ⟨w.heap.size, 0, none⟩) 1 1) := by
  subst hcv
  subst h
  exact ⟨(Below.refl _ _).alloc (Nat.le_refl _) _, by simp, .inr ⟨w.heap.size, 1, #[bv c], rfl, Nat.le_refl _, heap_alloc_new w _, Nat.le_refl _, by unfold maxLen; omega, rfl, by simp⟩⟩
theorem TxI.put {w wr : World} {xs : List UInt8} {ov : Value} (h : TxI w wr xs ov) (bs : List UInt8) (cs : Array Value) (n : Nat) (hcs : row8 bs = cs) (hn : bs.length = n) (hl : xs.length + n < 4294967296) :
    ∃ v' w', (Builtin.append_ #[22, 22] 22 #[ov, .slice (some ⟨wr.heap.size, 0, none⟩) n n]).run Tryd.prog (wr.alloc (.cells cs 5)) = .ok v' w' ∧ TxI w w' (xs ++ bs) v' := by
  subst hcs
  have hown' := own_below h.own ((Below.refl wr.heap.size wr).alloc (Nat.le_refl _) (.cells (row8 bs) 5))
  have hA : Bytes (wr.alloc (.cells (row8 bs) 5)) (some ⟨wr.heap.size, 0, none⟩) bs := Bytes.row (Blk.new wr 5 (row8 bs))
  have hs0 := h.bel.size
  obtain ⟨v', w2, hrun, hO, hg⟩ := run_app8 _ w.heap.size ov xs.length xs hown' _ n n bs hn hA (by omega) (by simp; omega)
  exact ⟨v', w2, hrun, (h.bel.alloc hs0 _).grown hg (by simp; omega) (fun k hk => (h.own.lt k hk).1), by rw [List.length_append, hn]; exact hO⟩
set_option maxRecDepth 20000 in
set_option maxHeartbeats 4000000 in
theorem ltext_any (k : UInt8) (s : List UInt8) (nx : Nat) (i : Int) (w : World) (h4 : k = 4 → nx ≤ big) (h5 : k = 5 → ∀ c ∈ s, plainB c) (hl : s.length ≤ 2048) :
    Calls Tryd.prog 17 #[.agg #[bv k, .string (str s), .int .i64 (nx : Int), .int .i64 i]] w fun e w' => e = .returned (.string (str (wr ⟨k, s, nx⟩))) ∧ Below w.heap.size w w' := by
  obtain ⟨n, hn⟩ : ∃ n, s.length = n := ⟨_, rfl⟩
  rw [hn] at hl
  have hsz := str_sizeN hn
  obtain ⟨un, hun⟩ : ∃ un, k.toNat = un := ⟨_, rfl⟩
  have hbv : bv k = .int .u8 (un : Int) := by rw [← hun]; rfl
  obtain ⟨R, hR⟩ : ∃ R, Tok.wr ⟨k, s, nx⟩ = R := ⟨_, rfl⟩
  rw [hR]
  have HW : Hid (R = if k = 4 then digs nx else if k = 5 then 34 :: (esc s ++ [34]) else s) := Lib.hid hR.symm
  clear hR
  rw [hbv]
  obtain ⟨sx, hsx⟩ : ∃ sx, str s = sx := ⟨_, rfl⟩
  obtain ⟨g, hg⟩ : ∃ g, w.heap.size = g := ⟨_, rfl⟩
  obtain ⟨w1, hw1⟩ : ∃ w1, w.alloc (.cells #[.int .u8 (un : Int), .string sx, .int .i64 (nx : Int), .int .i64 i] 34) = w1 := ⟨_, rfl⟩
  have hR1 : Blk w1 g 34 #[.int .u8 (un : Int), .string sx, .int .i64 (nx : Int), .int .i64 i] := by rw [← hw1, ← hg]; exact Blk.new _ _ _
  have hb1 : Below w.heap.size w w1 := by rw [← hw1]; exact (Below.refl _ _).alloc (Nat.le_refl _) _
  have HR1 := Lib.hid hR1
  have HB1 := Lib.hid hb1
  obtain ⟨r0, r1, r2, r3, f0⟩ := hR1.told4
  rw [hsx]
  rw [hsx] at hsz
  by_cases k4 : un = 4
  · have hk : k = 4 := u8_of 4 rfl (hun.trans k4)
    have e4 : ((un : Int) == 4) = true := by simp; omega
    have hb := h4 hk
    have HD := Lib.hid (ldigits_any (nx + 1) nx w1 (by omega) hb)
    unfold big at hb
    have hd1 : decide ((nx : Int) < 0) = false := by simp
    have hd2 : decide ((nx : Int) > 4611686018427387903) = false := by simp; omega
    have HW2 : Hid (R = digs nx) := Lib.hid (by rw [HW.out, if_pos hk])
    clear hk hb h4 h5 HW k4 hun hbv hR1 hb1 hsx hn
    go_enter Tryd.func17, Tryd.ntmps17
    go_wp2_with fail
    refine HD.out.mono ?_
    rintro e w2 ⟨rfl, q, rfl⟩
    go_wp2_with fail
    go_ret
    rw [HW2.out]
    exact ⟨rfl, HB1.out.trans ((drewN_below w1 q).mono HB1.out.size)⟩
  · have e4 : ((un : Int) == 4) = false := by simp; omega
    have hk4 : k ≠ 4 := fun e => by rw [e] at hun; exact k4 hun.symm
    by_cases k5 : un = 5
    · have hk : k = 5 := u8_of 5 rfl (hun.trans k5)
      have e5 : ((un : Int) == 5) = true := by simp; omega
      have HP := Lib.hid (h5 hk)
      have HW2 : Hid (R = 34 :: (esc s ++ [34])) := Lib.hid (by rw [HW.out, if_neg hk4, if_pos hk])
      have HN := Lib.hid hn
      have HS := Lib.hid hsx
      obtain ⟨w2, hw2⟩ : ∃ w2, w1.alloc (.cells #[.int .u8 34] 5) = w2 := ⟨_, rfl⟩
      have HI : Hid (TxI w1 w2 (34 :: esc (s.take 0)) (.slice (some ⟨w1.heap.size, 0, none⟩) 1 1)) := Lib.hid (TxI.new (c := 34) rfl hw2)
      have HG : Hid (g < w1.heap.size) := Lib.hid hR1.lt
      clear hk hk4 h4 h5 HW k4 k5 hun hbv hR1 hb1 hsx hn
      go_enter Tryd.func17, Tryd.ntmps17
      go_wp2_with fail
      go_loopw [3, 4, 5] (fun ov iv _ wr => ∃ (k : Nat) (ow : Value), k ≤ n ∧ ov = ow ∧ iv = .int .i64 (k : Int) ∧ Hid (TxI w1 wr (34 :: esc (s.take k)) ow)) (fun _ iv _ _ => n - (intOf iv).toNat)
      case atStart => exact ⟨0, _, Nat.zero_le _, rfl, rfl, HI⟩
      case round =>
        clear HI
        obtain ⟨k, ow, hk, rfl, rfl, hI⟩ := hrel
        have HR := Lib.hid (HR1.out.below hI.out.bel HG.out)
        obtain ⟨g0, g1, g2, g3, fg⟩ := HR.out.told4
        have HBW := Lib.hid (HB1.out.trans (hI.out.bel.mono HB1.out.size))
        have hel : (34 :: esc (s.take k)).length ≤ 5000 := by
          have := esc_len (s.take k)
          rw [List.length_take] at this
          rw [List.length_cons]
          omega
        by_cases hlt : k < n
        · have hd : decide ((k : Int) < (n : Int)) = true := by simpa using hlt
          obtain ⟨c, hc⟩ : ∃ c, s[k]? = some c := ⟨_, List.getElem?_eq_getElem (by rw [HN.out]; exact hlt)⟩
          have hks : k < sx.size := by rw [hsz]; exact hlt
          have hcc : sx[k] = c := by
            have hks' : k < (str s).size := by rw [HS.out]; exact hks
            have := str_at hc hks'
            simpa [HS.out] using this
          have hpl := HP.out c (List.mem_of_getElem? hc)
          have hts : esc (s.take (k + 1)) = esc (s.take k) ++ esc [c] := by
            rw [← esc_app]
            congr 1
            obtain ⟨hk1, hk2⟩ := List.getElem?_eq_some_iff.1 hc
            rw [← hk2, List.take_succ_eq_append_getElem hk1]
          obtain ⟨cn, hcn⟩ : ∃ cn, c.toNat = cn := ⟨_, rfl⟩
          have hcb : cn < 256 := by rw [← hcn]; exact c.toNat_lt
          by_cases h10 : cn = 10
          · have e10 : ((cn : Int) == 10) = true := by simp; omega
            have hc10 : c = 10 := u8_of 10 rfl (hcn.trans h10)
            obtain ⟨v', w', hrun, hST⟩ := hI.out.put [92, 110] #[.int .u8 92, .int .u8 110] 2 rfl rfl (by omega)
            have HI2 : Hid (TxI w1 w' (34 :: esc (s.take (k + 1))) v') := Lib.hid (by rw [hts, hc10]; exact hST)
            have HRUN := Lib.hid hrun
            clear hI hST hrun hc hts hpl h10 hc10 hel
            go_wp2_with (at_builtin; refine wpList_app rfl _ _ 22 rfl _ _ _ _ rfl rfl HRUN.out ?_)
            go_roundw
            case rel => exact ⟨k + 1, _, by omega, rfl, by go_num, HI2⟩
            case measure => simp [intOf]; omega
          · have e10 : ((cn : Int) == 10) = false := by simp; omega
            have hc10 : c ≠ 10 := fun e => by rw [e] at hcn; exact h10 hcn.symm
            by_cases h34 : cn = 34
            · have e34 : ((cn : Int) == 34) = true := by simp; omega
              have hc34 : c = 34 := u8_of 34 rfl (hcn.trans h34)
              obtain ⟨v', w', hrun, hST⟩ := hI.out.put [92, c] #[.int .u8 92, .int .u8 (cn : Int)] 2 (by rw [← hcn]; rfl) rfl (by omega)
              have HI2 : Hid (TxI w1 w' (34 :: esc (s.take (k + 1))) v') := Lib.hid (by
                have : esc [c] = [92, c] := by rw [hc34]; rfl
                rw [hts, this]; exact hST)
              have HRUN := Lib.hid hrun
              clear hI hST hrun hc hts hpl h10 hc10 hel hc34 h34
              go_wp2_with (at_builtin; refine wpList_app rfl _ _ 22 rfl _ _ _ _ rfl rfl HRUN.out ?_)
              go_roundw
              case rel => exact ⟨k + 1, _, by omega, rfl, by go_num, HI2⟩
              case measure => simp [intOf]; omega
            · have e34 : ((cn : Int) == 34) = false := by simp; omega
              have hc34 : c ≠ 34 := fun e => by rw [e] at hcn; exact h34 hcn.symm
              by_cases h92 : cn = 92
              · have e92 : ((cn : Int) == 92) = true := by simp; omega
                have hc92 : c = 92 := u8_of 92 rfl (hcn.trans h92)
                obtain ⟨v', w', hrun, hST⟩ := hI.out.put [92, c] #[.int .u8 92, .int .u8 (cn : Int)] 2 (by rw [← hcn]; rfl) rfl (by omega)
                have HI2 : Hid (TxI w1 w' (34 :: esc (s.take (k + 1))) v') := Lib.hid (by
                  have : esc [c] = [92, c] := by rw [hc92]; rfl
                  rw [hts, this]; exact hST)
                have HRUN := Lib.hid hrun
                clear hI hST hrun hc hts hpl h10 hc10 hel hc34 h34 h92 hc92
                go_wp2_with (at_builtin; refine wpList_app rfl _ _ 22 rfl _ _ _ _ rfl rfl HRUN.out ?_)
                go_roundw
                case rel => exact ⟨k + 1, _, by omega, rfl, by go_num, HI2⟩
                case measure => simp [intOf]; omega
              · have e92 : ((cn : Int) == 92) = false := by simp; omega
                have hc92 : c ≠ 92 := fun e => by rw [e] at hcn; exact h92 hcn.symm
                have hpn : 32 ≤ cn ∧ cn ≤ 126 := by
                  rcases hpl with h | h
                  · exact absurd h hc10
                  · rw [hcn] at h; exact h
                have e32 : decide ((cn : Int) < 32) = false := by simp; omega
                have e126 : decide ((cn : Int) > 126) = false := by simp; omega
                obtain ⟨v', w', hrun, hST⟩ := hI.out.put [c] #[.int .u8 (cn : Int)] 1 (by rw [← hcn]; rfl) rfl (by omega)
                have HI2 : Hid (TxI w1 w' (34 :: esc (s.take (k + 1))) v') := Lib.hid (by
                  have : esc [c] = [c] := by
                    show (if c = 10 then [92, 110] else if c = 34 ∨ c = 92 then [92, c] else [c]) ++ [] = [c]
                    rw [if_neg hc10, if_neg (fun e => by rcases e with e | e; exact hc34 e; exact hc92 e)]; rfl
                  rw [hts, this]; exact hST)
                have HRUN := Lib.hid hrun
                clear hI hST hrun hc hts hpl h10 hc10 hel hc34 h34 h92 hc92 hpn
                go_wp2_with (at_builtin; refine wpList_app rfl _ _ 22 rfl _ _ _ _ rfl rfl HRUN.out ?_)
                go_roundw
                case rel => exact ⟨k + 1, _, by omega, rfl, by go_num, HI2⟩
                case measure => simp [intOf]; omega
        · obtain rfl : n = k := by omega
          have hd : decide ((n : Int) < (n : Int)) = false := by simp
          obtain ⟨v', w', hrun, hST⟩ := hI.out.put [34] #[.int .u8 34] 1 rfl rfl (by omega)
          have htl : s.take n = s := List.take_of_length_le (by rw [HN.out]; exact Nat.le_refl _)
          rw [htl] at hST
          have hcv := run_strOwn w' w1.heap.size _ v' _ hST.own
          have HB := Lib.hid (HB1.out.trans (hST.bel.mono HB1.out.size))
          have HRUN := Lib.hid hrun
          have HW3 : Hid (R = 34 :: esc s ++ [34]) := Lib.hid (by rw [HW2.out]; rfl)
          obtain ⟨z, hz⟩ : ∃ z, (34 :: esc s ++ [34] : List UInt8) = z := ⟨_, rfl⟩
          rw [hz] at hcv HW3
          clear hI hST hrun htl hel hz
          go_wp2_with (at_builtin; refine wpList_app rfl _ _ 22 rfl _ _ _ _ rfl rfl HRUN.out ?_)
          go_ret
          rw [HW3.out]
          exact ⟨rfl, HB.out⟩
    · have e5 : ((un : Int) == 5) = false := by simp; omega
      have hk5 : k ≠ 5 := fun e => by rw [e] at hun; exact k5 hun.symm
      have HW2 : Hid (str R = sx) := Lib.hid (by rw [HW.out, if_neg hk4, if_neg hk5, hsx])
      clear hk4 hk5 h4 h5 HW k4 k5 hun hbv hR1 hb1 hsx hn
      go_enter Tryd.func17, Tryd.ntmps17
      go_wp2_with fail
      go_ret
      rw [HW2.out]
      exact ⟨rfl, HB1.out⟩
end Go.Proofs.YtdnmdccjecoojaaDoor
