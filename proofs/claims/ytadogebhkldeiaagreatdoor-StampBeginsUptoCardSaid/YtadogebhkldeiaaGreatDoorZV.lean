/- stamp, numbers too: between, of constructors and texts. -/
import Derived.Test.YtadogebhkldeiaaGreatDoorZU
namespace Go.Proofs.YtadogebhkldeiaaGreatDoor
open Go.RowKit Ty
set_option linter.unusedVariables false
set_option linter.unusedSimpArgs false
attribute [local go_sem] Oper.semAt_some
set_option maxRecDepth 20000 in
set_option maxHeartbeats 4000000 in
theorem between_con (g : Cn → List UInt8) (s : List UInt8) (z : ByteArray) (hz : str s = z) (ts : List Cn) (hg : ∀ t ∈ ts, ∀ A c, PutC 45 (t.val A c) (g t) (TyK A t.ty.ks)) (A : Option Addr) (n c : Nat) (hn : ts.length = n) (hnx : n ≤ 9223372036854775807) :
    ∀ (B : Nat) (X : Nat → Prop) (b : Nat) (l : List UInt8) (w : World), IsB B X b l w → CnAt X w A ts → l.length + (joinT s (ts.map g)).length < 4294967295 →
    Calls Tryz.prog 44 #[.pointer (some ⟨b, 0, none⟩), .slice A n c, .string z, .func (.func 45) #[] #[]] w fun e w' => e = .returned (.tuple #[]) ∧ IsB B X b (l ++ joinT s (ts.map g)) w' ∧ Off (fun k => ¬ X k) w w' := by
  intro B X b l w hb hT hl
  have HK := Lib.hid (And.intro hz (And.intro hn (And.intro hg (And.intro hT (And.intro hl hb)))))
  clear hz hn hg hT hl hb
  go_enter Tryz.func44, Tryz.ntmps44
  go_wp2_with fail
  go_loopw [12] (fun v12 wr => ∃ (i : Nat), i ≤ n ∧ v12 = .int .i64 (i : Int) ∧ Hid (IsB B X b (l ++ joinT s ((ts.map g).take i)) wr ∧ Off (fun k => ¬ X k) w wr)) (fun v12 _ => n - (intOf v12).toNat)
  case atStart => exact ⟨0, Nat.zero_le _, rfl, Lib.hid ⟨by rw [List.take_zero]; unfold joinT; rw [List.append_nil]; exact HK.out.2.2.2.2.2, Off.refl _ _⟩⟩
  case round =>
    obtain ⟨i, hi, rfl, HI⟩ := hrel
    by_cases hli : i < n
    · have hd : decide ((i : Int) < (n : Int)) = true := by simpa using hli
      obtain ⟨t, ht⟩ : ∃ t, ts[i]? = some t := ⟨_, List.getElem?_eq_getElem (by rw [HK.out.2.1]; exact hli)⟩
      have hAt : CnAt X wr A ts := HK.out.2.2.2.1.off HI.out.2 fun b hb hn => hn hb
      obtain ⟨ba, oa, A', c', rfl, _, _, zc, hin⟩ := hAt i t ht
      have z0 := zc 0 _ rfl
      have z1 := zc 1 _ rfl
      have z2 := zc 2 _ rfl
      have z3 := zc 3 _ rfl
      have z4 := zc 4 _ rfl
      have z5 := zc 5 _ rfl
      simp only [Nat.add_zero] at z0
      have hKt := hin.1
      clear zc hin
      obtain ⟨tl, htl⟩ : ∃ tl, t.ty.ks.length = tl := ⟨_, rfl⟩
      rw [htl] at z5
      obtain ⟨w1, hw1⟩ : ∃ W, wr.alloc (.cells #[.string (str t.nm), .bool t.has, .int .u8 (t.ty.k : Int), .string (str t.ty.nm), .int .i64 t.ty.n, .slice A' tl c'] 44) = W := ⟨_, rfl⟩
      have hb1 : Below wr.heap.size wr w1 := by rw [← hw1]; exact (Below.refl _ _).alloc (Nat.le_refl _) _
      have hB1 : Blk w1 wr.heap.size 44 #[.string (str t.nm), .bool t.has, .int .u8 (t.ty.k : Int), .string (str t.ty.nm), .int .i64 t.ty.n, .slice A' tl c'] := by rw [← hw1]; exact Blk.new _ _ _
      obtain ⟨q, hq⟩ : ∃ q, wr.heap.size = q := ⟨_, rfl⟩
      rw [hq] at hB1
      obtain ⟨Y, hY⟩ : ∃ Y : Nat → Prop, Y = fun k => X k ∨ k = q := ⟨_, rfl⟩
      have hYq : Y q := by rw [hY]; exact .inr rfl
      have hXY : ∀ k, X k → Y k := fun k h => by rw [hY]; exact .inl h
      have hI1 : IsB B Y b (l ++ joinT s ((ts.map g).take i)) w1 := HI.out.1.bel hb1 fun k h => by
        rw [hY] at h
        rcases h with h | rfl
        · exact .inl h
        · exact .inr ⟨by omega, hB1.lt⟩
      have HX : Hid (∀ W, Off (fun k => ¬ Y k) w1 W → W.cell? ⟨q, 0, none⟩ = some (.string (str t.nm)) ∧ W.cell? ⟨q, 1, none⟩ = some (.bool t.has) ∧ W.cell? ⟨q, 2, none⟩ = some (.int .u8 (t.ty.k : Int)) ∧ W.cell? ⟨q, 3, none⟩ = some (.string (str t.ty.nm)) ∧ W.cell? ⟨q, 4, none⟩ = some (.int .i64 t.ty.n) ∧ W.cell? ⟨q, 5, none⟩ = some (.slice A' tl c')) := Lib.hid fun W hW => by
        have h := hB1.off hW fun h => h hYq
        exact ⟨h.cell 0, h.cell 1, h.cell 2, h.cell 3, h.cell 4, h.cell 5⟩
      have hgx : (ts.map g)[i]? = some (g t) := by rw [List.getElem?_map, ht]; rfl
      have hle := joinT_le s (ts.map g) (i + 1)
      have hlen := HK.out.2.2.2.2.1
      have hnx2 := joinT_next (s := s) hgx
      have HP := HK.out.2.2.1 t (List.mem_of_getElem? ht) A' c'
      unfold Cn.val at HP
      rw [htl] at HP
      replace HP := Lib.hid HP
      have HI1 := Lib.hid (And.intro hI1 (And.intro hXY (And.intro (Off.of_new hb1 (fun k => ¬ X k)) (And.intro (show TyK A' t.ty.ks Y w1 from (Ty.At.mono hKt hXY).off (Off.of_new hb1 (fun k => ¬ Y k)) (fun b hb hn => hn hb)) (And.intro hnx2 (And.intro (show l.length + (joinT s ((ts.map g).take (i + 1))).length < 4294967295 by omega) HI.out.2))))))
      have HW := Lib.hid (And.intro hw1 hq)
      clear hnx2 hle hlen hgx hI1 hXY hYq hY hB1 hb1 hKt hAt ht htl hw1 hq HI
      by_cases h0 : i = 0
      · subst h0
        simp only [Nat.zero_mul, Nat.add_zero] at z0 z1 z2 z3 z4 z5
        go_upto_region 3 with fail
        (try rw [HW.out.1])
        (try rw [HW.out.2])
        clear HW z0 z1 z2 z3 z4 z5
        obtain ⟨x0, x1, x2, x3, x4, x5⟩ := HX.out w1 (Off.refl _ _)
        have hI1 := HI1.out.1
        rw [List.take_zero] at hI1
        unfold joinT at hI1
        rw [List.append_nil] at hI1
        have hl2 : l.length + (g t).length < 4294967295 := by
          have := HI1.out.2.2.2.2.2.1
          rw [HI1.out.2.2.2.2.1] at this
          simpa using this
        have hI1 := Lib.hid hI1
        go_wp2_with fail
        refine (HP.out B Y b l w1 hI1.out HI1.out.2.2.2.1 hl2).mono ?_
        rintro e w2 ⟨rfl, h2, o2⟩
        have HN : Hid (IsB B X b (l ++ joinT s ((ts.map g).take (0 + 1))) w2 ∧ Off (fun k => ¬ X k) w w2) := Lib.hid ⟨by
          have := h2.mono HI1.out.2.1
          rw [HI1.out.2.2.2.2.1]
          simpa using this, HI1.out.2.2.2.2.2.2.trans (HI1.out.2.2.1.trans (o2.mono fun k _ h hX => h (HI1.out.2.1 k hX)))⟩
        clear h2 o2 x0 x1 x2 x3 x4 x5 hI1
        go_wp2_with fail
        go_roundw
        case rel => exact ⟨1, by omega, by go_num, HN⟩
        case measure => simp [intOf]; omega
      · have hgt : decide ((i : Int) > 0) = true := by simp; omega
        have hpos : 0 < i := by omega
        have hnext := HI1.out.2.2.2.2.1
        rw [if_neg h0] at hnext
        have hl2 : (l ++ joinT s ((ts.map g).take i)).length + s.length + (g t).length < 4294967295 := by
          have := HI1.out.2.2.2.2.2.1
          rw [hnext] at this
          simp only [List.length_append] at this ⊢
          omega
        have HNX := Lib.hid hnext
        clear hnext h0
        go_upto_region 3 with fail
        (try rw [HW.out.1])
        (try rw [HW.out.2])
        clear HW z0 z1 z2 z3 z4 z5
        go_wp2_with fail
        refine (ws_any HI1.out.1 s z HK.out.1 (by omega)).mono ?_
        rintro e w2 ⟨rfl, h2, o2⟩
        obtain ⟨x0, x1, x2, x3, x4, x5⟩ := HX.out w2 o2
        have HT2 := Lib.hid (And.intro h2 (And.intro o2 (TyK.more HI1.out.2.2.2.1 (fun _ h => h) o2)))
        clear h2 o2
        go_wp2_with fail
        refine (HP.out B Y b (l ++ joinT s ((ts.map g).take i) ++ s) w2 HT2.out.1 HT2.out.2.2 (by rw [List.length_append]; omega)).mono ?_
        rintro e w3 ⟨rfl, h3, o3⟩
        have HN : Hid (IsB B X b (l ++ joinT s ((ts.map g).take (i + 1))) w3 ∧ Off (fun k => ¬ X k) w w3) := Lib.hid ⟨by
          have := h3.mono HI1.out.2.1
          rw [HNX.out]
          simpa [List.append_assoc] using this, HI1.out.2.2.2.2.2.2.trans (HI1.out.2.2.1.trans ((HT2.out.2.1.trans o3).mono fun k _ h hX => h (HI1.out.2.1 k hX)))⟩
        clear h3 o3 x0 x1 x2 x3 x4 x5 HT2 HNX
        go_wp2_with fail
        go_roundw
        case rel => exact ⟨i + 1, by omega, by go_num, HN⟩
        case measure => simp [intOf]; omega
    · obtain rfl : n = i := by omega
      have hd : decide ((n : Int) < (n : Int)) = false := by simp
      have HN : Hid (IsB B X b (l ++ joinT s (ts.map g)) wr ∧ Off (fun k => ¬ X k) w wr) := Lib.hid (by
        have := HI.out
        rwa [List.take_of_length_le (by rw [List.length_map, HK.out.2.1]; exact Nat.le_refl _)] at this)
      clear HI
      go_wp2_with fail
      go_end0
      exact ⟨rfl, HN.out⟩
set_option maxRecDepth 20000 in
theorem word_any (s : List UInt8) (z : ByteArray) (hz : str s = z) : PutC 53 (.string z) s (fun _ _ => True) := by
  intro B X b l w hb _ hl
  have H := Lib.hid (ws_any hb s z hz (by omega))
  clear hb hz hl
  go_enter Tryz.func53, Tryz.ntmps53
  go_wp2_with fail
  refine H.out.mono ?_
  rintro e w2 ⟨rfl, h2⟩
  have HP := Lib.hid h2
  clear h2
  go_wp2_with fail
  go_end0
  exact ⟨rfl, HP.out⟩
set_option maxRecDepth 20000 in
set_option maxHeartbeats 4000000 in
theorem between_str (s : List UInt8) (z : ByteArray) (hz : str s = z) (ts : List (List UInt8)) (A : Option Addr) (n c : Nat) (hn : ts.length = n) (hnx : n ≤ 9223372036854775807) :
    ∀ (B : Nat) (X : Nat → Prop) (b : Nat) (l : List UInt8) (w : World), IsB B X b l w → SsAt X w A ts → l.length + (joinT s ts).length < 4294967295 →
    Calls Tryz.prog 52 #[.pointer (some ⟨b, 0, none⟩), .slice A n c, .string z, .func (.func 53) #[] #[]] w fun e w' => e = .returned (.tuple #[]) ∧ IsB B X b (l ++ joinT s ts) w' ∧ Off (fun k => ¬ X k) w w' := by
  intro B X b l w hb hT hl
  have HK := Lib.hid (And.intro hz (And.intro hn (And.intro hT (And.intro hl hb))))
  clear hz hn hT hl hb
  go_enter Tryz.func52, Tryz.ntmps52
  go_wp2_with fail
  go_loopw [12] (fun v12 wr => ∃ (i : Nat), i ≤ n ∧ v12 = .int .i64 (i : Int) ∧ Hid (IsB B X b (l ++ joinT s (ts.take i)) wr ∧ Off (fun k => ¬ X k) w wr)) (fun v12 _ => n - (intOf v12).toNat)
  case atStart => exact ⟨0, Nat.zero_le _, rfl, Lib.hid ⟨by rw [List.take_zero]; unfold joinT; rw [List.append_nil]; exact HK.out.2.2.2.2, Off.refl _ _⟩⟩
  case round =>
    obtain ⟨i, hi, rfl, HI⟩ := hrel
    by_cases hli : i < n
    · have hd : decide ((i : Int) < (n : Int)) = true := by simpa using hli
      obtain ⟨t, ht⟩ : ∃ t, ts[i]? = some t := ⟨_, List.getElem?_eq_getElem (by rw [HK.out.2.1]; exact hli)⟩
      obtain ⟨ba, oa, rfl, _, _, z0⟩ := (HK.out.2.2.1.off HI.out.2 fun b hb hn => hn hb) i t ht
      have hle := joinT_le s ts (i + 1)
      have hlen := HK.out.2.2.2.1
      have hnx2 := joinT_next (s := s) ht
      have HI1 := Lib.hid (And.intro hnx2 (And.intro (show l.length + (joinT s (ts.take (i + 1))).length < 4294967295 by omega) HI.out))
      clear hnx2 hle hlen ht HI
      by_cases h0 : i = 0
      · subst h0
        simp only [Nat.add_zero] at z0
        have HQ : Hid (IsB B X b l wr ∧ l.length + t.length < 4294967295 ∧ joinT s (ts.take (0 + 1)) = t) := Lib.hid (by
          have h1 := HI1.out.1
          have h2 := HI1.out.2.1
          have h3 := HI1.out.2.2.1
          rw [List.take_zero] at h3
          unfold joinT at h3
          rw [List.append_nil] at h3
          have h4 : joinT s (ts.take (0 + 1)) = t := by rw [h1]; simp
          rw [h4] at h2
          exact ⟨h3, h2, h4⟩)
        go_wp2_with fail
        refine (word_any t _ rfl B X b l wr HQ.out.1 trivial HQ.out.2.1).mono ?_
        rintro e w2 ⟨rfl, h2, o2⟩
        have HN : Hid (IsB B X b (l ++ joinT s (ts.take (0 + 1))) w2 ∧ Off (fun k => ¬ X k) w w2) := Lib.hid ⟨by rw [HQ.out.2.2]; exact h2, HI1.out.2.2.2.trans o2⟩
        clear h2 o2 HQ z0
        go_wp2_with fail
        go_roundw
        case rel => exact ⟨1, by omega, by go_num, HN⟩
        case measure => simp [intOf]; omega
      · have hgt : decide ((i : Int) > 0) = true := by simp; omega
        have hpos : 0 < i := by omega
        have hnext := HI1.out.1
        rw [if_neg h0] at hnext
        have hl2 : (l ++ joinT s (ts.take i)).length + s.length + t.length < 4294967295 := by
          have := HI1.out.2.1
          rw [hnext] at this
          simp only [List.length_append] at this ⊢
          omega
        have HNX := Lib.hid hnext
        clear hnext h0
        go_wp2_with fail
        refine (ws_any HI1.out.2.2.1 s z HK.out.1 (by omega)).mono ?_
        rintro e w2 ⟨rfl, h2, o2⟩
        have HT2 := Lib.hid (And.intro h2 o2)
        clear h2 o2
        go_wp2_with fail
        refine (word_any t _ rfl B X b (l ++ joinT s (ts.take i) ++ s) w2 HT2.out.1 trivial (by rw [List.length_append]; omega)).mono ?_
        rintro e w3 ⟨rfl, h3, o3⟩
        have HN : Hid (IsB B X b (l ++ joinT s (ts.take (i + 1))) w3 ∧ Off (fun k => ¬ X k) w w3) := Lib.hid ⟨by
          rw [HNX.out]
          simpa [List.append_assoc] using h3, HI1.out.2.2.2.trans (HT2.out.2.trans o3)⟩
        clear h3 o3 HT2 HNX z0
        go_wp2_with fail
        go_roundw
        case rel => exact ⟨i + 1, by omega, by go_num, HN⟩
        case measure => simp [intOf]; omega
    · obtain rfl : n = i := by omega
      have hd : decide ((n : Int) < (n : Int)) = false := by simp
      have HN : Hid (IsB B X b (l ++ joinT s ts) wr ∧ Off (fun k => ¬ X k) w wr) := Lib.hid (by
        have := HI.out
        rwa [List.take_of_length_le (by rw [HK.out.2.1]; exact Nat.le_refl _)] at this)
      clear HI
      go_wp2_with fail
      go_end0
      exact ⟨rfl, HN.out⟩
def varsT (vs : List (List UInt8)) : List UInt8 := if vs.length = 0 then [] else if vs.length = 1 then joinT [] vs ++ [32] else [40] ++ joinT [44, 32] vs ++ [41, 32]
set_option maxRecDepth 20000 in
theorem vars_any (vs : List (List UInt8)) (A : Option Addr) (n c : Nat) (hn : vs.length = n) (hnx : n ≤ 9223372036854775807) : PutC 43 (.slice A n c) (varsT vs) (fun X w => SsAt X w A vs) := by
  intro B X b l w hb hT hl
  have hv : varsT vs = if vs.length = 0 then [] else if vs.length = 1 then joinT [] vs ++ [32] else [40] ++ joinT [44, 32] vs ++ [41, 32] := rfl
  rw [hn] at hv
  obtain ⟨tx, htx⟩ : ∃ tx, varsT vs = tx := ⟨_, rfl⟩
  rw [htx] at hv hl ⊢
  have HB := Lib.hid (And.intro hb (And.intro hT (And.intro hn hl)))
  clear hb hT hn hl htx
  by_cases h0 : n = 0
  · have hz : ((n : Int) == 0) = true := by rw [h0]; rfl
    rw [if_pos h0] at hv
    have HP : Hid (IsB B X b (l ++ tx) w ∧ Off (fun k => ¬ X k) w w) := Lib.hid ⟨by rw [hv, List.append_nil]; exact HB.out.1, Off.refl _ _⟩
    clear hv h0
    go_enter Tryz.func43, Tryz.ntmps43
    go_wp2_with fail
    go_end0
    exact ⟨rfl, HP.out⟩
  · have hz : ((n : Int) == 0) = false := by rw [beq_eq_false_iff_ne]; omega
    rw [if_neg h0] at hv
    by_cases h1 : n = 1
    · have ho : ((n : Int) == 1) = true := by rw [h1]; rfl
      rw [if_pos h1] at hv
      obtain ⟨t, ht⟩ : ∃ t, vs[0]? = some t := ⟨_, List.getElem?_eq_getElem (by rw [HB.out.2.2.1]; omega)⟩
      have hvs : vs = [t] := by
        have hl1 := HB.out.2.2.1
        cases hk : vs with
        | nil => rw [hk] at ht; simp at ht
        | cons a r =>
          rw [hk] at ht hl1
          simp at ht
          subst ht
          have : r = [] := List.eq_nil_of_length_eq_zero (by simp at hl1; omega)
          rw [this]
      obtain ⟨ba, oa, rfl, _, _, z0⟩ := HB.out.2.1 0 t ht
      simp only [Nat.add_zero] at z0
      have HV : Hid (tx = t ++ [32] ∧ l.length + (t.length + 1) < 4294967295) := Lib.hid (by
        rw [hvs] at hv
        have e5 : joinT [] [t] = t := rfl
        rw [e5] at hv
        refine ⟨hv, ?_⟩
        have := HB.out.2.2.2
        rw [hv] at this
        simpa using this)
      have hc : str t ++ ⟨#[32]⟩ = str (t ++ [32]) := by
        apply ByteArray.ext
        simp [str]
      have hp : (0 : Int) < (n : Int) := by omega
      have hp2 : 0 < n := by omega
      have hmx : ¬ (9223372036854775807 < (str t).size + 1) := by rw [str_size]; have := HV.out.2; omega
      clear hv ht hvs h0 h1
      go_enter Tryz.func43, Tryz.ntmps43
      go_wp2_with fail
      refine (ws_any HB.out.1 (t ++ [32]) _ rfl (by rw [List.length_append]; have := HV.out.2; simp only [List.length_singleton]; omega)).mono ?_
      rintro e w4 ⟨rfl, h4, o4⟩
      have HP : Hid (IsB B X b (l ++ tx) w4 ∧ Off (fun k => ¬ X k) w w4) := Lib.hid ⟨by rw [HV.out.1]; exact h4, o4⟩
      clear h4 o4
      go_wp2_with fail
      go_end0
      exact ⟨rfl, HP.out⟩
    · have ho : ((n : Int) == 1) = false := by rw [beq_eq_false_iff_ne]; omega
      rw [if_neg h1] at hv
      have HV : Hid (tx = [40] ++ joinT [44, 32] vs ++ [41, 32] ∧ l.length + (1 + (joinT [44, 32] vs).length + 2) < 4294967295) := Lib.hid (by
        refine ⟨hv, ?_⟩
        have := HB.out.2.2.2
        rw [hv] at this
        simp only [List.length_append, List.length_cons, List.length_nil] at this
        omega)
      clear hv h0 h1
      go_enter Tryz.func43, Tryz.ntmps43
      go_wp2_with fail
      refine (wb_any HB.out.1 40 40 rfl (by have := HV.out.2; omega)).mono ?_
      rintro e w2 ⟨rfl, h2, o2⟩
      have HT2 := Lib.hid (And.intro h2 (And.intro o2 (HB.out.2.1.off o2 fun b hb hn => hn hb)))
      clear h2 o2
      go_wp2_with fail
      refine (between_str [44, 32] _ rfl vs A n c HB.out.2.2.1 hnx B X b _ w2 HT2.out.1 HT2.out.2.2 (by simp only [List.length_append, List.length_singleton]; have := HV.out.2; omega)).mono ?_
      rintro e w3 ⟨rfl, h3, o3⟩
      have HT3 := Lib.hid (And.intro h3 (HT2.out.2.1.trans o3))
      clear h3 o3
      go_wp2_with fail
      refine (ws_any HT3.out.1 [41, 32] _ rfl (by simp only [List.length_append, List.length_cons, List.length_nil]; have := HV.out.2; omega)).mono ?_
      rintro e w4 ⟨rfl, h4, o4⟩
      have HP : Hid (IsB B X b (l ++ tx) w4 ∧ Off (fun k => ¬ X k) w w4) := Lib.hid ⟨by rw [HV.out.1]; simpa [List.append_assoc] using h4, HT3.out.2.trans o4⟩
      clear h4 o4
      go_wp2_with fail
      go_end0
      exact ⟨rfl, HP.out⟩
end Go.Proofs.YtadogebhkldeiaaGreatDoor
