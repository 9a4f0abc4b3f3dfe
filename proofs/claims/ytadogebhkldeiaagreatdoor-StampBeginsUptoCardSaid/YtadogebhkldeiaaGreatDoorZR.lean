/- stamp, numbers too: between. -/
import Derived.Test.YtadogebhkldeiaaGreatDoorZQ
namespace Go.Proofs.YtadogebhkldeiaaGreatDoor
open Go.RowKit Ty
set_option linter.unusedVariables false
set_option linter.unusedSimpArgs false
attribute [local go_sem] Oper.semAt_some
set_option maxRecDepth 20000 in
set_option maxHeartbeats 4000000 in
theorem between_tight (g : Ty → List UInt8) (s : List UInt8) (z : ByteArray) (hz : str s = z) (ts : List Ty) (hg : ∀ t ∈ ts, ∀ A c, PutC 41 (t.val A c) (g t) (TyK A t.ks)) (A : Option Addr) (n c : Nat) (hn : ts.length = n) (hnx : n ≤ 9223372036854775807) :
    ∀ (B : Nat) (X : Nat → Prop) (b : Nat) (l : List UInt8) (w : World), IsB B X b l w → Ty.At X w A ts → l.length + (joinT s (ts.map g)).length < 4294967295 →
    Calls Tryz.prog 40 #[.pointer (some ⟨b, 0, none⟩), .slice A n c, .string z, .func (.func 41) #[] #[]] w fun e w' => e = .returned (.tuple #[]) ∧ IsB B X b (l ++ joinT s (ts.map g)) w' ∧ Off (fun k => ¬ X k) w w' := by
  intro B X b l w hb hT hl
  have HK := Lib.hid (And.intro hz (And.intro hn (And.intro hg (And.intro hT (And.intro hl hb)))))
  clear hz hn hg hT hl hb
  go_enter Tryz.func40, Tryz.ntmps40
  go_wp2_with fail
  go_loopw [12] (fun v12 wr => ∃ (i : Nat), i ≤ n ∧ v12 = .int .i64 (i : Int) ∧ Hid (IsB B X b (l ++ joinT s ((ts.map g).take i)) wr ∧ Off (fun k => ¬ X k) w wr)) (fun v12 _ => n - (intOf v12).toNat)
  case atStart => exact ⟨0, Nat.zero_le _, rfl, Lib.hid ⟨by rw [List.take_zero]; unfold joinT; rw [List.append_nil]; exact HK.out.2.2.2.2.2, Off.refl _ _⟩⟩
  case round =>
    obtain ⟨i, hi, rfl, HI⟩ := hrel
    by_cases hli : i < n
    · have hd : decide ((i : Int) < (n : Int)) = true := by simpa using hli
      obtain ⟨t, ht⟩ : ∃ t, ts[i]? = some t := ⟨_, List.getElem?_eq_getElem (by rw [HK.out.2.1]; exact hli)⟩
      have hAt : Ty.At X wr A ts := HK.out.2.2.2.1.off HI.out.2 fun b hb hn => hn hb
      obtain ⟨ba, oa, A', c', rfl, _, _, z0, z1, z2, z3, hok, hlc, hcm, hKt⟩ := hAt.get ht
      obtain ⟨tl, htl⟩ : ∃ tl, t.ks.length = tl := ⟨_, rfl⟩
      rw [htl] at z3
      obtain ⟨w1, hw1⟩ : ∃ W, wr.alloc (.cells #[.int .u8 (t.k : Int), .string (str t.nm), .int .i64 t.n, .slice A' tl c'] 24) = W := ⟨_, rfl⟩
      have hb1 : Below wr.heap.size wr w1 := by rw [← hw1]; exact (Below.refl _ _).alloc (Nat.le_refl _) _
      have hB1 : Blk w1 wr.heap.size 24 #[.int .u8 (t.k : Int), .string (str t.nm), .int .i64 t.n, .slice A' tl c'] := by rw [← hw1]; exact Blk.new _ _ _
      obtain ⟨q, hq⟩ : ∃ q, wr.heap.size = q := ⟨_, rfl⟩
      rw [hq] at hB1
      obtain ⟨Y, hY⟩ : ∃ Y : Nat → Prop, Y = fun k => X k ∨ k = q := ⟨_, rfl⟩
      have hYq : Y q := by rw [hY]; exact .inr rfl
      have hXY : ∀ k, X k → Y k := fun k h => by rw [hY]; exact .inl h
      have hI1 : IsB B Y b (l ++ joinT s ((ts.map g).take i)) w1 := HI.out.1.bel hb1 fun k h => by
        rw [hY] at h
        rcases h with h | rfl
        · exact .inl h
        · exact .inr ⟨by omega, hB1.lt⟩
      have HX : Hid (∀ W, Off (fun k => ¬ Y k) w1 W → W.cell? ⟨q, 0, none⟩ = some (.int .u8 (t.k : Int)) ∧ W.cell? ⟨q, 1, none⟩ = some (.string (str t.nm)) ∧ W.cell? ⟨q, 2, none⟩ = some (.int .i64 t.n) ∧ W.cell? ⟨q, 3, none⟩ = some (.slice A' tl c')) := Lib.hid fun W hW => by
        have h := hB1.off hW fun h => h hYq
        exact ⟨h.cell 0, h.cell 1, h.cell 2, h.cell 3⟩
      have hgx : (ts.map g)[i]? = some (g t) := by rw [List.getElem?_map, ht]; rfl
      have hle := joinT_le s (ts.map g) (i + 1)
      have hlen := HK.out.2.2.2.2.1
      have hnx2 := joinT_next (s := s) hgx
      have HP := HK.out.2.2.1 t (List.mem_of_getElem? ht) A' c'
      unfold Ty.val at HP
      rw [htl] at HP
      replace HP := Lib.hid HP
      have HI1 := Lib.hid (And.intro hI1 (And.intro hXY (And.intro (Off.of_new hb1 (fun k => ¬ X k)) (And.intro (show TyK A' t.ks Y w1 from (Ty.At.mono hKt hXY).off (Off.of_new hb1 (fun k => ¬ Y k)) (fun b hb hn => hn hb)) (And.intro hnx2 (And.intro (show l.length + (joinT s ((ts.map g).take (i + 1))).length < 4294967295 by omega) HI.out.2))))))
      have HW := Lib.hid (And.intro hw1 hq)
      clear hnx2 hle hlen hgx hI1 hXY hYq hY hB1 hb1 hKt hok hlc hcm hAt ht htl hw1 hq HI
      by_cases h0 : i = 0
      · subst h0
        simp only [Nat.zero_mul, Nat.add_zero] at z0 z1 z2 z3
        go_upto_region 3 with fail
        (try rw [HW.out.1])
        (try rw [HW.out.2])
        clear HW z0 z1 z2 z3
        obtain ⟨x0, x1, x2, x3⟩ := HX.out w1 (Off.refl _ _)
        have hI1 := HI1.out.1
        rw [List.take_zero] at hI1
        unfold joinT at hI1
        rw [List.append_nil] at hI1
        have hl2 : l.length + (g t).length < 4294967295 := by
          have := HI1.out.2.2.2.2.2.1
          rw [HI1.out.2.2.2.2.1] at this
          simpa using this
        have hI1 := Lib.hid hI1
        go_wp2_with fail
        refine (HP.out B Y b l w1 hI1.out HI1.out.2.2.2.1 hl2).mono ?_
        rintro e w2 ⟨rfl, h2, o2⟩
        have HN : Hid (IsB B X b (l ++ joinT s ((ts.map g).take (0 + 1))) w2 ∧ Off (fun k => ¬ X k) w w2) := Lib.hid ⟨by
          have := h2.mono HI1.out.2.1
          rw [HI1.out.2.2.2.2.1]
          simpa using this, HI1.out.2.2.2.2.2.2.trans (HI1.out.2.2.1.trans (o2.mono fun k _ h hX => h (HI1.out.2.1 k hX)))⟩
        clear h2 o2 x0 x1 x2 x3 hI1
        go_wp2_with fail
        go_roundw
        case rel => exact ⟨1, by omega, by go_num, HN⟩
        case measure => simp [intOf]; omega
      · have hgt : decide ((i : Int) > 0) = true := by simp; omega
        have hpos : 0 < i := by omega
        have hnext := HI1.out.2.2.2.2.1
        rw [if_neg h0] at hnext
        have hl2 : (l ++ joinT s ((ts.map g).take i)).length + s.length + (g t).length < 4294967295 := by
          have := HI1.out.2.2.2.2.2.1
          rw [hnext] at this
          simp only [List.length_append] at this ⊢
          omega
        have HNX := Lib.hid hnext
        clear hnext h0
        go_upto_region 3 with fail
        (try rw [HW.out.1])
        (try rw [HW.out.2])
        clear HW z0 z1 z2 z3
        go_wp2_with fail
        refine (ws_any HI1.out.1 s z HK.out.1 (by omega)).mono ?_
        rintro e w2 ⟨rfl, h2, o2⟩
        obtain ⟨x0, x1, x2, x3⟩ := HX.out w2 o2
        have HT2 := Lib.hid (And.intro h2 (And.intro o2 (TyK.more HI1.out.2.2.2.1 (fun _ h => h) o2)))
        clear h2 o2
        go_wp2_with fail
        refine (HP.out B Y b (l ++ joinT s ((ts.map g).take i) ++ s) w2 HT2.out.1 HT2.out.2.2 (by rw [List.length_append]; omega)).mono ?_
        rintro e w3 ⟨rfl, h3, o3⟩
        have HN : Hid (IsB B X b (l ++ joinT s ((ts.map g).take (i + 1))) w3 ∧ Off (fun k => ¬ X k) w w3) := Lib.hid ⟨by
          have := h3.mono HI1.out.2.1
          rw [HNX.out]
          simpa [List.append_assoc] using this, HI1.out.2.2.2.2.2.2.trans (HI1.out.2.2.1.trans ((HT2.out.2.1.trans o3).mono fun k _ h hX => h (HI1.out.2.1 k hX)))⟩
        clear h3 o3 x0 x1 x2 x3 HT2 HNX
        go_wp2_with fail
        go_roundw
        case rel => exact ⟨i + 1, by omega, by go_num, HN⟩
        case measure => simp [intOf]; omega
    · obtain rfl : n = i := by omega
      have hd : decide ((n : Int) < (n : Int)) = false := by simp
      have HN : Hid (IsB B X b (l ++ joinT s (ts.map g)) wr ∧ Off (fun k => ¬ X k) w wr) := Lib.hid (by
        have := HI.out
        rwa [List.take_of_length_le (by rw [List.length_map, HK.out.2.1]; exact Nat.le_refl _)] at this)
      clear HI
      go_wp2_with fail
      go_end0
      exact ⟨rfl, HN.out⟩
set_option maxRecDepth 20000 in
set_option maxHeartbeats 4000000 in
theorem between_ty (g : Ty → List UInt8) (s : List UInt8) (z : ByteArray) (hz : str s = z) (ts : List Ty) (hg : ∀ t ∈ ts, ∀ A c, PutC 31 (t.val A c) (g t) (TyK A t.ks)) (A : Option Addr) (n c : Nat) (hn : ts.length = n) (hnx : n ≤ 9223372036854775807) :
    ∀ (B : Nat) (X : Nat → Prop) (b : Nat) (l : List UInt8) (w : World), IsB B X b l w → Ty.At X w A ts → l.length + (joinT s (ts.map g)).length < 4294967295 →
    Calls Tryz.prog 40 #[.pointer (some ⟨b, 0, none⟩), .slice A n c, .string z, .func (.func 31) #[] #[]] w fun e w' => e = .returned (.tuple #[]) ∧ IsB B X b (l ++ joinT s (ts.map g)) w' ∧ Off (fun k => ¬ X k) w w' := by
  intro B X b l w hb hT hl
  have HK := Lib.hid (And.intro hz (And.intro hn (And.intro hg (And.intro hT (And.intro hl hb)))))
  clear hz hn hg hT hl hb
  go_enter Tryz.func40, Tryz.ntmps40
  go_wp2_with fail
  go_loopw [12] (fun v12 wr => ∃ (i : Nat), i ≤ n ∧ v12 = .int .i64 (i : Int) ∧ Hid (IsB B X b (l ++ joinT s ((ts.map g).take i)) wr ∧ Off (fun k => ¬ X k) w wr)) (fun v12 _ => n - (intOf v12).toNat)
  case atStart => exact ⟨0, Nat.zero_le _, rfl, Lib.hid ⟨by rw [List.take_zero]; unfold joinT; rw [List.append_nil]; exact HK.out.2.2.2.2.2, Off.refl _ _⟩⟩
  case round =>
    obtain ⟨i, hi, rfl, HI⟩ := hrel
    by_cases hli : i < n
    · have hd : decide ((i : Int) < (n : Int)) = true := by simpa using hli
      obtain ⟨t, ht⟩ : ∃ t, ts[i]? = some t := ⟨_, List.getElem?_eq_getElem (by rw [HK.out.2.1]; exact hli)⟩
      have hAt : Ty.At X wr A ts := HK.out.2.2.2.1.off HI.out.2 fun b hb hn => hn hb
      obtain ⟨ba, oa, A', c', rfl, _, _, z0, z1, z2, z3, hok, hlc, hcm, hKt⟩ := hAt.get ht
      obtain ⟨tl, htl⟩ : ∃ tl, t.ks.length = tl := ⟨_, rfl⟩
      rw [htl] at z3
      obtain ⟨w1, hw1⟩ : ∃ W, wr.alloc (.cells #[.int .u8 (t.k : Int), .string (str t.nm), .int .i64 t.n, .slice A' tl c'] 24) = W := ⟨_, rfl⟩
      have hb1 : Below wr.heap.size wr w1 := by rw [← hw1]; exact (Below.refl _ _).alloc (Nat.le_refl _) _
      have hB1 : Blk w1 wr.heap.size 24 #[.int .u8 (t.k : Int), .string (str t.nm), .int .i64 t.n, .slice A' tl c'] := by rw [← hw1]; exact Blk.new _ _ _
      obtain ⟨q, hq⟩ : ∃ q, wr.heap.size = q := ⟨_, rfl⟩
      rw [hq] at hB1
      obtain ⟨Y, hY⟩ : ∃ Y : Nat → Prop, Y = fun k => X k ∨ k = q := ⟨_, rfl⟩
      have hYq : Y q := by rw [hY]; exact .inr rfl
      have hXY : ∀ k, X k → Y k := fun k h => by rw [hY]; exact .inl h
      have hI1 : IsB B Y b (l ++ joinT s ((ts.map g).take i)) w1 := HI.out.1.bel hb1 fun k h => by
        rw [hY] at h
        rcases h with h | rfl
        · exact .inl h
        · exact .inr ⟨by omega, hB1.lt⟩
      have HX : Hid (∀ W, Off (fun k => ¬ Y k) w1 W → W.cell? ⟨q, 0, none⟩ = some (.int .u8 (t.k : Int)) ∧ W.cell? ⟨q, 1, none⟩ = some (.string (str t.nm)) ∧ W.cell? ⟨q, 2, none⟩ = some (.int .i64 t.n) ∧ W.cell? ⟨q, 3, none⟩ = some (.slice A' tl c')) := Lib.hid fun W hW => by
        have h := hB1.off hW fun h => h hYq
        exact ⟨h.cell 0, h.cell 1, h.cell 2, h.cell 3⟩
      have hgx : (ts.map g)[i]? = some (g t) := by rw [List.getElem?_map, ht]; rfl
      have hle := joinT_le s (ts.map g) (i + 1)
      have hlen := HK.out.2.2.2.2.1
      have hnx2 := joinT_next (s := s) hgx
      have HP := HK.out.2.2.1 t (List.mem_of_getElem? ht) A' c'
      unfold Ty.val at HP
      rw [htl] at HP
      replace HP := Lib.hid HP
      have HI1 := Lib.hid (And.intro hI1 (And.intro hXY (And.intro (Off.of_new hb1 (fun k => ¬ X k)) (And.intro (show TyK A' t.ks Y w1 from (Ty.At.mono hKt hXY).off (Off.of_new hb1 (fun k => ¬ Y k)) (fun b hb hn => hn hb)) (And.intro hnx2 (And.intro (show l.length + (joinT s ((ts.map g).take (i + 1))).length < 4294967295 by omega) HI.out.2))))))
      have HW := Lib.hid (And.intro hw1 hq)
      clear hnx2 hle hlen hgx hI1 hXY hYq hY hB1 hb1 hKt hok hlc hcm hAt ht htl hw1 hq HI
      by_cases h0 : i = 0
      · subst h0
        simp only [Nat.zero_mul, Nat.add_zero] at z0 z1 z2 z3
        go_upto_region 3 with fail
        (try rw [HW.out.1])
        (try rw [HW.out.2])
        clear HW z0 z1 z2 z3
        obtain ⟨x0, x1, x2, x3⟩ := HX.out w1 (Off.refl _ _)
        have hI1 := HI1.out.1
        rw [List.take_zero] at hI1
        unfold joinT at hI1
        rw [List.append_nil] at hI1
        have hl2 : l.length + (g t).length < 4294967295 := by
          have := HI1.out.2.2.2.2.2.1
          rw [HI1.out.2.2.2.2.1] at this
          simpa using this
        have hI1 := Lib.hid hI1
        go_wp2_with fail
        refine (HP.out B Y b l w1 hI1.out HI1.out.2.2.2.1 hl2).mono ?_
        rintro e w2 ⟨rfl, h2, o2⟩
        have HN : Hid (IsB B X b (l ++ joinT s ((ts.map g).take (0 + 1))) w2 ∧ Off (fun k => ¬ X k) w w2) := Lib.hid ⟨by
          have := h2.mono HI1.out.2.1
          rw [HI1.out.2.2.2.2.1]
          simpa using this, HI1.out.2.2.2.2.2.2.trans (HI1.out.2.2.1.trans (o2.mono fun k _ h hX => h (HI1.out.2.1 k hX)))⟩
        clear h2 o2 x0 x1 x2 x3 hI1
        go_wp2_with fail
        go_roundw
        case rel => exact ⟨1, by omega, by go_num, HN⟩
        case measure => simp [intOf]; omega
      · have hgt : decide ((i : Int) > 0) = true := by simp; omega
        have hpos : 0 < i := by omega
        have hnext := HI1.out.2.2.2.2.1
        rw [if_neg h0] at hnext
        have hl2 : (l ++ joinT s ((ts.map g).take i)).length + s.length + (g t).length < 4294967295 := by
          have := HI1.out.2.2.2.2.2.1
          rw [hnext] at this
          simp only [List.length_append] at this ⊢
          omega
        have HNX := Lib.hid hnext
        clear hnext h0
        go_upto_region 3 with fail
        (try rw [HW.out.1])
        (try rw [HW.out.2])
        clear HW z0 z1 z2 z3
        go_wp2_with fail
        refine (ws_any HI1.out.1 s z HK.out.1 (by omega)).mono ?_
        rintro e w2 ⟨rfl, h2, o2⟩
        obtain ⟨x0, x1, x2, x3⟩ := HX.out w2 o2
        have HT2 := Lib.hid (And.intro h2 (And.intro o2 (TyK.more HI1.out.2.2.2.1 (fun _ h => h) o2)))
        clear h2 o2
        go_wp2_with fail
        refine (HP.out B Y b (l ++ joinT s ((ts.map g).take i) ++ s) w2 HT2.out.1 HT2.out.2.2 (by rw [List.length_append]; omega)).mono ?_
        rintro e w3 ⟨rfl, h3, o3⟩
        have HN : Hid (IsB B X b (l ++ joinT s ((ts.map g).take (i + 1))) w3 ∧ Off (fun k => ¬ X k) w w3) := Lib.hid ⟨by
          have := h3.mono HI1.out.2.1
          rw [HNX.out]
          simpa [List.append_assoc] using this, HI1.out.2.2.2.2.2.2.trans (HI1.out.2.2.1.trans ((HT2.out.2.1.trans o3).mono fun k _ h hX => h (HI1.out.2.1 k hX)))⟩
        clear h3 o3 x0 x1 x2 x3 HT2 HNX
        go_wp2_with fail
        go_roundw
        case rel => exact ⟨i + 1, by omega, by go_num, HN⟩
        case measure => simp [intOf]; omega
    · obtain rfl : n = i := by omega
      have hd : decide ((n : Int) < (n : Int)) = false := by simp
      have HN : Hid (IsB B X b (l ++ joinT s (ts.map g)) wr ∧ Off (fun k => ¬ X k) w wr) := Lib.hid (by
        have := HI.out
        rwa [List.take_of_length_le (by rw [List.length_map, HK.out.2.1]; exact Nat.le_refl _)] at this)
      clear HI
      go_wp2_with fail
      go_end0
      exact ⟨rfl, HN.out⟩
end Go.Proofs.YtadogebhkldeiaaGreatDoor
