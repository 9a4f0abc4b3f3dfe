/- token: scanning reckoned; works. -/
import Derived.Test.YtdnmdccjecoojaaDoorW
import Derived.Test.YtdnmdccjecoojaaDoorZKept
namespace Go.Proofs.YtdnmdccjecoojaaDoor
open Go.RowKit Tok
namespace Tok
def comF : Nat → List UInt8 → Nat → Option Nat
  | 0, _, _ => none
  | f + 1, r, d => if r = [] then none else if r.take 2 = [40, 42] then (comF f (r.drop 2) (d + 1)).map (2 + ·) else if r.take 2 = [42, 41] then if d = 1 then some 2 else (comF f (r.drop 2) (d - 1)).map (2 + ·) else (comF f (r.drop 1) d).map (1 + ·)
theorem comF_eq : ∀ (f : Nat) (r : List UInt8) (d : Nat), r.length ≤ f → comF f r d = comS r d
  | 0, r, d, h => by
    obtain rfl : r = [] := List.eq_nil_of_length_eq_zero (by omega)
    rw [comS_nil]; rfl
  | f + 1, r, d, h => by
    unfold comF
    by_cases hr : r = []
    · rw [if_pos hr, hr, comS_nil]
    · rw [if_neg hr]
      have hp := List.length_pos_iff.2 hr
      by_cases h1 : r.take 2 = [40, 42]
      · rw [if_pos h1, comS_open d h1, comF_eq f _ _ (by rw [List.length_drop]; omega)]
      · rw [if_neg h1]
        by_cases h2 : r.take 2 = [42, 41]
        · rw [if_pos h2]
          by_cases hd : d = 1
          · subst hd
            rw [if_pos rfl, comS_end h2]
          · rw [if_neg hd, comS_close h2 hd, comF_eq f _ _ (by rw [List.length_drop]; omega)]
        · rw [if_neg h2, comS_else d hr h1 h2, comF_eq f _ _ (by rw [List.length_drop]; omega)]
def blankF (s : List UInt8) : Option Nat :=
  match s with
  | [] => some 0
  | c :: r => if blankB c then some 1 else if (c :: r).take 2 = [40, 42] then comF (r.length + 1) (c :: r) 0 else some 0
theorem blankF_eq (s : List UInt8) : blankF s = blankN s := by
  cases s with
  | nil => rfl
  | cons c r =>
    show (if blankB c then some 1 else if (c :: r).take 2 = [40, 42] then comF (r.length + 1) (c :: r) 0 else some 0) = (if blankB c then some 1 else if (c :: r).take 2 = [40, 42] then comS (c :: r) 0 else some 0)
    rw [comF_eq _ _ _ (by simp)]
def resF : Nat → List UInt8 → Nat → List (Tk × Nat) → Res
  | 0, _, _, l => .ok l
  | f + 1, r, i, l =>
    if r = [] then .ok l
    else match blankF r with
      | none => .err i
      | some (n + 1) => resF f (r.drop (n + 1)) (i + (n + 1)) l
      | some 0 =>
        match oneN r with
        | none => .err i
        | some (_, 0) => .err i
        | some (t, n + 1) => resF f (r.drop (n + 1)) (i + (n + 1)) (l ++ [(t, i)])
theorem resF_eq (s : List UInt8) : ∀ (f i : Nat) (l : List (Tk × Nat)), s.length ≤ i + f → resF f (s.drop i) i l = res s i l
  | 0, i, l, h => by rw [res_end (by omega)]; rfl
  | f + 1, i, l, h => by
    unfold resF
    by_cases hr : s.drop i = []
    · have := congrArg List.length hr
      rw [List.length_drop] at this
      simp at this
      rw [if_pos hr, res_end (by omega)]
    · have hlt : i < s.length := by
        rcases Nat.lt_or_ge i s.length with h1 | h1
        · exact h1
        · exact absurd (List.drop_eq_nil_of_le h1) hr
      rw [if_neg hr, blankF_eq]
      cases hb : blankN (s.drop i) with
      | none => rw [res_open hlt hb]
      | some n =>
        cases n with
        | succ n => 
          show resF f ((s.drop i).drop (n + 1)) (i + (n + 1)) l = _
          rw [res_blank hlt hb (by omega), List.drop_drop, resF_eq s f _ _ (by omega)]
        | zero =>
          show (match oneN (s.drop i) with | none => Res.err i | some (_, 0) => .err i | some (t, n + 1) => resF f ((s.drop i).drop (n + 1)) (i + (n + 1)) (l ++ [(t, i)])) = _
          cases ho : oneN (s.drop i) with
          | none => rw [res_none hlt hb ho]
          | some x =>
            obtain ⟨t, n⟩ := x
            cases n with
            | zero =>
              rw [res, dif_neg (by omega), hb]; simp only [ho]
            | succ n =>
              show resF f ((s.drop i).drop (n + 1)) (i + (n + 1)) (l ++ [(t, i)]) = _
              rw [res_one hlt hb ho (by omega), List.drop_drop, resF_eq s f _ _ (by omega)]
theorem scanF {s : List UInt8} (h : s.length ≤ 16384) : scanR s = resF s.length s 0 [] := by
  unfold scanR
  rw [if_neg (by omega), ← resF_eq s s.length 0 [] (by omega), List.drop_zero]
def wsrc1 : List UInt8 := [118, 97, 108, 32, 120, 32, 61, 32, 39, 97, 32, 40, 42, 32, 110, 111, 32, 42, 41, 32, 34, 98, 92, 110, 34, 32, 49, 50]
def wsrc2 : List UInt8 := [97, 32, 46]
def wtoks : List (Tk × Nat) := [(⟨6, [118, 97, 108], 0⟩, 0), (⟨1, [120], 0⟩, 4), (⟨7, [61], 0⟩, 6), (⟨3, [39, 97], 0⟩, 8), (⟨5, [98, 10], 0⟩, 20), (⟨4, [], 12⟩, 26)]
theorem wscan1 : scanR wsrc1 = .ok wtoks := (scanF (by decide)).trans (by kernel_rfl)
theorem wscan2 : scanR wsrc2 = .err 2 := (scanF (by decide)).trans (by kernel_rfl)
end Tok
theorem lit_bytes (w : World) (bs : List UInt8) (C : Array Value) (hC : row8 bs = C) (fr : Nat × Nat) : Bytes (w.alloc (.cells C 5 fr)) (some ⟨w.heap.size, 0, none⟩) bs := fun k c hk => by
  subst hC
  refine ⟨w.heap.size, 0, rfl, by simp, ?_⟩
  have h := World.cell?_alloc_mark w (row8 bs) 5 fr (0 + k)
  refine h.trans ?_
  have hr := row8_get k c hk
  rw [Nat.zero_add]
  exact hr
theorem tks_form {B : Nat} {W : World} {sv : Value} {ws : List (Tk × Nat)} (h : TksZ B W sv ws) (hn : 0 < ws.length) : ∃ g c, sv = .slice (some ⟨g, 0, none⟩) ws.length c := by
  rcases h.own.2 with ⟨_, h0⟩ | ⟨g, cap, _, hv, _⟩
  · omega
  · exact ⟨g, cap, hv⟩
set_option maxHeartbeats 2000000 in
theorem works_any (w : World) (hT : Tabs w) : Calls Tryd.prog 9 #[] w fun e w' => e = .returned (.bool true) ∧ Below w.heap.size w w' := by
  have kc1 := fun W : World => Lib.run_convert_bytes_const (P := Tryd.prog) W 22 5 #[.int .u8 118, .int .u8 97, .int .u8 108, .int .u8 32, .int .u8 120, .int .u8 32, .int .u8 61, .int .u8 32, .int .u8 39, .int .u8 97, .int .u8 32, .int .u8 40, .int .u8 42, .int .u8 32, .int .u8 110, .int .u8 111, .int .u8 32, .int .u8 42, .int .u8 41, .int .u8 32, .int .u8 34, .int .u8 98, .int .u8 92, .int .u8 110, .int .u8 34, .int .u8 32, .int .u8 49, .int .u8 50] 28 28 Tryd.underlying22 Tryd.underlying5
  have kc2 := fun W : World => Lib.run_convert_bytes_const (P := Tryd.prog) W 22 5 #[.int .u8 97, .int .u8 32, .int .u8 46] 3 3 Tryd.underlying22 Tryd.underlying5
  have hb1 := (Below.refl w.heap.size w).alloc (Nat.le_refl _) (.cells #[.int .u8 118, .int .u8 97, .int .u8 108, .int .u8 32, .int .u8 120, .int .u8 32, .int .u8 61, .int .u8 32, .int .u8 39, .int .u8 97, .int .u8 32, .int .u8 40, .int .u8 42, .int .u8 32, .int .u8 110, .int .u8 111, .int .u8 32, .int .u8 42, .int .u8 41, .int .u8 32, .int .u8 34, .int .u8 98, .int .u8 92, .int .u8 110, .int .u8 34, .int .u8 32, .int .u8 49, .int .u8 50] 5 (28, 29))
  have H1 := Lib.hid (scan_any (some ⟨w.heap.size, 0, none⟩) 28 28 wsrc1 (w.alloc (.cells #[.int .u8 118, .int .u8 97, .int .u8 108, .int .u8 32, .int .u8 120, .int .u8 32, .int .u8 61, .int .u8 32, .int .u8 39, .int .u8 97, .int .u8 32, .int .u8 40, .int .u8 42, .int .u8 32, .int .u8 110, .int .u8 111, .int .u8 32, .int .u8 42, .int .u8 41, .int .u8 32, .int .u8 34, .int .u8 98, .int .u8 92, .int .u8 110, .int .u8 34, .int .u8 32, .int .u8 49, .int .u8 50] 5 (28, 29))) rfl (lit_bytes w wsrc1 _ (by kernel_rfl) _) (by decide) (hT.below hb1))
  have H2 : Hid (∀ W, Below w.heap.size w W → Calls Tryd.prog 11 #[.slice (some ⟨W.heap.size, 0, none⟩) 3 3] (W.alloc (.cells #[.int .u8 97, .int .u8 32, .int .u8 46] 5 (3, 4))) (ScanP (W.alloc (.cells #[.int .u8 97, .int .u8 32, .int .u8 46] 5 (3, 4))).heap.size wsrc2 (W.alloc (.cells #[.int .u8 97, .int .u8 32, .int .u8 46] 5 (3, 4))))) := Lib.hid (fun W hW => scan_any (some ⟨W.heap.size, 0, none⟩) 3 3 wsrc2 _ rfl (lit_bytes W wsrc2 _ (by kernel_rfl) _) (by decide) (hT.below (hW.alloc hW.size _)))
  have HB1 := Lib.hid hb1
  clear hb1 hT
  go_enter Tryd.func9, Tryd.ntmps9
  go_wp2_with fail
  refine H1.out.mono ?_
  rintro e w1 ⟨hb, hor⟩
  rcases hor with ⟨l, lv, hs, rfl, hz, _⟩ | ⟨i, hs, _⟩
  case inr => rw [wscan1] at hs; cases hs
  rw [wscan1] at hs
  injection hs with hs
  subst hs
  have hbw := HB1.out.trans (hb.mono HB1.out.size)
  obtain ⟨g, c, rfl⟩ := tks_form hz (by decide)
  obtain ⟨A, c', e, _, _, hk⟩ := hz.toks
  injection e with e1 e2 e3
  subst e1
  have hg : g < w1.heap.size := (hz.lt g rfl).2
  have HK : Hid (∀ W, Below w1.heap.size w1 W → W.cell? ⟨g, 0, none⟩ = some (.int .u8 6) ∧ W.cell? ⟨g, 5, none⟩ = some (.string ⟨#[120]⟩) ∧ W.cell? ⟨g, 8, none⟩ = some (.int .u8 7) ∧ W.cell? ⟨g, 13, none⟩ = some (.string ⟨#[39, 97]⟩) ∧ W.cell? ⟨g, 17, none⟩ = some (.string ⟨#[98, 10]⟩) ∧ W.cell? ⟨g, 22, none⟩ = some (.int .i64 12) ∧ W.cell? ⟨g, 23, none⟩ = some (.int .i64 26)) := Lib.hid (fun W hW => by
    have hc : ∀ j, W.cell? ⟨g, j, none⟩ = w1.cell? ⟨g, j, none⟩ := fun j => hW.cell (p := ⟨g, j, none⟩) hg
    obtain ⟨_, _, e, _, a0, _, _, _⟩ := hk 0 _ rfl
    cases e
    obtain ⟨_, _, e, _, _, a1, _, _⟩ := hk 1 _ rfl
    cases e
    obtain ⟨_, _, e, _, a2, _, _, _⟩ := hk 2 _ rfl
    cases e
    obtain ⟨_, _, e, _, _, a3, _, _⟩ := hk 3 _ rfl
    cases e
    obtain ⟨_, _, e, _, _, a4, _, _⟩ := hk 4 _ rfl
    cases e
    obtain ⟨_, _, e, _, _, _, a5, a6⟩ := hk 5 _ rfl
    cases e
    exact ⟨(hc _).trans a0, (hc _).trans a1, (hc _).trans a2, (hc _).trans a3, (hc _).trans a4, (hc _).trans a5, (hc _).trans a6⟩)
  have H2 := Lib.hid (H2.out w1 hbw)
  have HBW := Lib.hid hbw
  clear hb hz hk e2 e3 hbw H1 kc1
  go_wp2_with fail
  refine H2.out.mono ?_
  rintro e w2 ⟨hb, hor⟩
  rcases hor with ⟨l, lv, hs, _⟩ | ⟨i, hs, rfl⟩
  case inl => rw [wscan2] at hs; cases hs
  rw [wscan2] at hs
  injection hs with hs
  subst hs
  have hb2 := ((Below.refl w1.heap.size w1).alloc (Nat.le_refl _) (.cells #[.int .u8 97, .int .u8 32, .int .u8 46] 5 (3, 4))).trans (hb.mono (by simp))
  obtain ⟨c0, c1, c2, c3, c4, c5, c6⟩ := HK.out w2 hb2
  have HB2 := Lib.hid (HBW.out.trans (hb2.mono HBW.out.size))
  clear hb hb2 kc2
  go_wp2_with fail
  go_ret
  exact ⟨rfl, HB2.out⟩
end Go.Proofs.YtdnmdccjecoojaaDoor
