/- token: the reference's text. -/
import Derived.Test.YtdnmdccjecoojaaDoorT
namespace Go.Proofs.YtdnmdccjecoojaaDoor
open Go.RowKit Tok
/-- Between the rounds of the reference's text. -/
structure StrJ (w wr : World) (s pre : List UInt8) (k : Nat) (ov : Value) : Prop where
  bel : Below w.heap.size w wr
  own : wr.ownsRow w.heap.size 5 1 ov pre.length (pre.map bv)
  len : pre.length + 1 ≤ k
  is : strL (s.drop 1) = (strL (s.drop k)).map fun y => (pre ++ y.1, k - 1 + y.2)
theorem StrJ.none_ {w wr : World} {s pre : List UInt8} {k : Nat} {ov : Value} (h : StrJ w wr s pre k ov) (hs : strL (s.drop k) = none) : strN s = none := by
  unfold strN; rw [h.is, hs]; rfl
theorem StrJ.done {w wr : World} {s pre : List UInt8} {k : Nat} {ov : Value} (h : StrJ w wr s pre k ov) (hs : strL (s.drop k) = some ([], 1)) : strN s = some (⟨5, pre, 0⟩, k + 1) := by
  have := h.len
  unfold strN; rw [h.is, hs]
  show some ((⟨5, pre ++ [], 0⟩ : Tk), k - 1 + 1 + 1) = _
  rw [List.append_nil, show k - 1 + 1 = k by omega]
theorem StrJ.put {w wr : World} {s pre : List UInt8} {k : Nat} {ov : Value} {c : UInt8} {cv : Value} (h : StrJ w wr s pre k ov) (m : Nat) (hs : strL (s.drop k) = (strL (s.drop (k + m))).map fun x => (c :: x.1, x.2 + m)) (hl : pre.length < 4294967296 ∧ 1 ≤ m) (hcv : bv c = cv) :
    ∃ v' w', (Builtin.append_ #[22, 22] 22 #[ov, .slice (some ⟨wr.heap.size, 0, none⟩) 1 1]).run Tryd.prog (wr.alloc (.cells #[cv] 5)) = .ok v' w' ∧ StrJ w w' s (pre ++ [c]) (k + m) v' := by
  subst hcv
  have hown' := own_below h.own ((Below.refl wr.heap.size wr).alloc (Nat.le_refl _) (.cells #[bv c] 5))
  have hA : Bytes (wr.alloc (.cells #[bv c] 5)) (some ⟨wr.heap.size, 0, none⟩) [c] := Bytes.of_blk (Blk.new wr 5 #[bv c]) (fun k d hk => by
    cases k with
    | zero => simp at hk; subst hk; rfl
    | succ k => simp at hk)
  have hs0 := h.bel.size
  obtain ⟨v', w2, hrun, hO, hg⟩ := run_app8 _ w.heap.size ov pre.length pre hown' _ 1 1 [c] rfl hA (by omega) (by simp; omega)
  refine ⟨v', w2, hrun, (h.bel.alloc hs0 _).grown hg (by simp; omega) (fun k hk => (h.own.lt k hk).1), by rw [List.length_append]; exact hO, by rw [List.length_append]; have := h.len; simp; omega, ?_⟩
  rw [h.is, hs, Option.map_map]
  congr 1
  funext x
  show (pre ++ c :: x.1, k - 1 + (x.2 + m)) = (pre ++ [c] ++ x.1, k + m - 1 + x.2)
  have := h.len
  rw [List.append_assoc]
  congr 1
  omega
def TextP (s : List UInt8) (w : World) : Ending → World → Prop := fun e w' => Below w.heap.size w w' ∧ ∃ x n, e = .returned (.tuple #[.string (str x), .int .i64 ((n : Nat) : Int)]) ∧ ((strN s = none ∧ x = [] ∧ n = 0) ∨ strN s = some (⟨5, x, 0⟩, n))
set_option maxHeartbeats 4000000 in
theorem rtext_any (s : List UInt8) (w : World) (hb : s.length < 4294967296) (h0 : 0 < s.length) :
    Calls Tryd.prog 47 #[.string (str s)] w (TextP s w) := by
  obtain ⟨n, hn⟩ : ∃ n, s.length = n := ⟨_, rfl⟩
  have hsz := str_sizeN hn
  rw [hn] at hb h0
  have HI : Hid (StrJ w w s [] 1 (.slice none 0 0)) := Lib.hid ⟨Below.refl _ _, World.ownsRow_nil _ _ _ _, Nat.le_refl _, by simp⟩
  have HN := Lib.hid hn
  clear hn
  go_enter Tryd.func47, Tryd.ntmps47
  go_wp2_with fail
  go_loopw [4, 5, 6] (fun ov kv _ wr => ∃ (k : Nat) (pre : List UInt8) (ow : Value), k ≤ n ∧ ov = ow ∧ kv = .int .i64 (k : Int) ∧ Hid (StrJ w wr s pre k ow)) (fun _ kv _ _ => n - (intOf kv).toNat)
  case atStart => exact ⟨1, [], _, by omega, rfl, rfl, HI⟩
  case round =>
    clear HI
    obtain ⟨k, pre, ow, hk, rfl, rfl, hI⟩ := hrel
    by_cases hlt : k < n
    · have hd : decide ((k : Int) < (n : Int)) = true := by simpa using hlt
      have hd2 : decide ((k : Int) ≥ (n : Int)) = false := by simpa using hlt
      obtain ⟨c, hc⟩ : ∃ c, s[k]? = some c := ⟨_, List.getElem?_eq_getElem (by rw [HN.out]; exact hlt)⟩
      have hks : k < (str s).size := by rw [hsz]; exact hlt
      have hcc := str_at hc hks
      obtain ⟨cn, hcn⟩ : ∃ cn, c.toNat = cn := ⟨_, rfl⟩
      by_cases h34 : cn = 34
      · have e34 : ((cn : Int) != 34) = false := by simp; omega
        have HX := Lib.hid (hI.out.done (strL_quote hc (by omega)))
        have hcv := run_strOwn wr w.heap.size _ _ pre hI.out.own
        have HB := Lib.hid hI.out.bel
        have hkb : k + 1 < 4294967296 := by omega
        clear hI hc h34
        go_wp2_with fail
        go_ret2
        exact ⟨HB.out, pre, k + 1, by simp, .inr HX.out⟩
      · have e34 : ((cn : Int) != 34) = true := by simp; omega
        by_cases h32 : cn < 32
        · have e32 : decide ((cn : Int) < 32) = true := by simp; omega
          have HX := Lib.hid (hI.out.none_ (strL_bad hc (by omega) (by omega)))
          have HB := Lib.hid hI.out.bel
          clear hI hc h34 h32
          go_wp2_with fail
          go_ret2
          exact ⟨HB.out, [], 0, rfl, .inl ⟨HX.out, rfl, rfl⟩⟩
        · have e32 : decide ((cn : Int) < 32) = false := by simp; omega
          by_cases h126 : 126 < cn
          · have e126 : decide ((cn : Int) > 126) = true := by simp; omega
            have HX := Lib.hid (hI.out.none_ (strL_bad hc (by omega) (by omega)))
            have HB := Lib.hid hI.out.bel
            clear hI hc h34 h32 h126
            go_wp2_with fail
            go_ret2
            exact ⟨HB.out, [], 0, rfl, .inl ⟨HX.out, rfl, rfl⟩⟩
          · have e126 : decide ((cn : Int) > 126) = false := by simp; omega
            by_cases h92 : cn = 92
            · have e92 : ((cn : Int) == 92) = true := by simp; omega
              by_cases hk1 : k + 1 = n
              · have ek : ((k : Int) + 1 == (n : Int)) = true := by simp; omega
                have HX := Lib.hid (hI.out.none_ (strL_cut hc (by omega) (by rw [HN.out]; omega)))
                have HB := Lib.hid hI.out.bel
                clear hI hc h34 h32 h126 h92 hk1
                go_wp2_with fail
                go_ret2
                exact ⟨HB.out, [], 0, rfl, .inl ⟨HX.out, rfl, rfl⟩⟩
              · have ek : ((k : Int) + 1 == (n : Int)) = false := by simp; omega
                obtain ⟨e, he⟩ : ∃ e, s[k + 1]? = some e := ⟨_, List.getElem?_eq_getElem (by rw [HN.out]; omega)⟩
                have hks1 : k + 1 < (str s).size := by rw [hsz]; omega
                have hce := str_at he hks1
                obtain ⟨en, hen⟩ : ∃ en, e.toNat = en := ⟨_, rfl⟩
                have hk1n : (k : Int) + 1 < (n : Int) := by omega
                have hk1m : k + 1 < n := by omega
                by_cases h110 : en = 110
                · have e110 : ((en : Int) != 110) = false := by simp; omega
                  have e110' : ((en : Int) == 110) = true := by simp; omega
                  obtain ⟨ov2, w3, hrun, HST⟩ := hI.out.put (c := 10) 2 (strL_n hc (by omega) he (by omega)) ⟨by have := hI.out.len; omega, by omega⟩ (show bv 10 = .int .u8 10 from rfl)
                  have HRUN := Lib.hid hrun
                  have HI2 := Lib.hid HST
                  clear hI HST hrun hc he h34 h32 h126 h92 hk1 h110
                  go_wp2_with (at_builtin; refine wpList_app rfl _ _ 22 rfl _ _ _ _ rfl rfl HRUN.out ?_)
                  go_roundw
                  case rel => exact ⟨k + 2, pre ++ [10], _, by omega, rfl, by go_num, HI2⟩
                  case measure => simp [intOf]; omega
                · have e110 : ((en : Int) != 110) = true := by simp; omega
                  have e110' : ((en : Int) == 110) = false := by simp; omega
                  by_cases h92e : en = 92
                  · have e92e : ((en : Int) != 92) = false := by simp; omega
                    obtain ⟨ov2, w3, hrun, HST⟩ := hI.out.put (c := e) 2 (strL_q hc (by omega) he (by omega)) ⟨by have := hI.out.len; omega, by omega⟩ (show bv e = .int .u8 (en : Int) by unfold bv; rw [hen])
                    have HRUN := Lib.hid hrun
                    have HI2 := Lib.hid HST
                    clear hI HST hrun hc he h34 h32 h126 h92 hk1 h110 h92e
                    go_wp2_with (at_builtin; refine wpList_app rfl _ _ 22 rfl _ _ _ _ rfl rfl HRUN.out ?_)
                    go_roundw
                    case rel => exact ⟨k + 2, pre ++ [e], _, by omega, rfl, by go_num, HI2⟩
                    case measure => simp [intOf]; omega
                  · have e92e : ((en : Int) != 92) = true := by simp; omega
                    by_cases h34e : en = 34
                    · have e34e : ((en : Int) != 34) = false := by simp; omega
                      obtain ⟨ov2, w3, hrun, HST⟩ := hI.out.put (c := e) 2 (strL_q hc (by omega) he (by omega)) ⟨by have := hI.out.len; omega, by omega⟩ (show bv e = .int .u8 (en : Int) by unfold bv; rw [hen])
                      have HRUN := Lib.hid hrun
                      have HI2 := Lib.hid HST
                      clear hI HST hrun hc he h34 h32 h126 h92 hk1 h110 h92e h34e
                      go_wp2_with (at_builtin; refine wpList_app rfl _ _ 22 rfl _ _ _ _ rfl rfl HRUN.out ?_)
                      go_roundw
                      case rel => exact ⟨k + 2, pre ++ [e], _, by omega, rfl, by go_num, HI2⟩
                      case measure => simp [intOf]; omega
                    · have e34e : ((en : Int) != 34) = true := by simp; omega
                      have HX := Lib.hid (hI.out.none_ (strL_other hc (by omega) he (by omega) (by omega) (by omega)))
                      have HB := Lib.hid hI.out.bel
                      clear hI hc he h34 h32 h126 h92 hk1 h110 h92e h34e
                      go_wp2_with fail
                      go_ret2
                      exact ⟨HB.out, [], 0, rfl, .inl ⟨HX.out, rfl, rfl⟩⟩
            · have e92 : ((cn : Int) == 92) = false := by simp; omega
              obtain ⟨ov2, w3, hrun, HST⟩ := hI.out.put (c := c) 1 (strL_plain hc (by omega) (by omega) (by omega) (by omega)) ⟨by have := hI.out.len; omega, by omega⟩ (show bv c = .int .u8 (cn : Int) by unfold bv; rw [hcn])
              have HRUN := Lib.hid hrun
              have HI2 := Lib.hid HST
              clear hI HST hrun hc h34 h32 h126 h92
              go_wp2_with (at_builtin; refine wpList_app rfl _ _ 22 rfl _ _ _ _ rfl rfl HRUN.out ?_)
              go_roundw
              case rel => exact ⟨k + 1, pre ++ [c], _, by omega, rfl, by go_num, HI2⟩
              case measure => simp [intOf]; omega
    · obtain rfl : n = k := by omega
      have hd : decide ((n : Int) < (n : Int)) = false := by simp
      have hd2 : decide ((n : Int) ≥ (n : Int)) = true := by simp
      have HX := Lib.hid (hI.out.none_ (by rw [List.drop_eq_nil_of_le (by rw [HN.out]; omega)]; rfl))
      have HB := Lib.hid hI.out.bel
      clear hI 
      go_wp2_with fail
      go_ret2
      exact ⟨HB.out, [], 0, rfl, .inl ⟨HX.out, rfl, rfl⟩⟩
end Go.Proofs.YtdnmdccjecoojaaDoor
