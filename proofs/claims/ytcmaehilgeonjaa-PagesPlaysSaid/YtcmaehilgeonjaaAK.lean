/- pages: does without a map; meant. -/
import Derived.Test.YtcmaehilgeonjaaAJ
namespace Go.Proofs.Ytcmaehilgeonjaa
open Go.RowKit Pgs
set_option maxRecDepth 20000 in
set_option maxHeartbeats 2000000 in
theorem does_nil (n c : Nat) (A : Option Addr) (o : Ou) (w : World) (hl : o.B.length = n) (hn : n ≤ 1024) (hA : Bytes w A o.B) :
    Calls Try.prog 15 #[.pointer none, .agg #[.int .i64 o.k, .int .i64 o.p, .int .i64 o.s, .slice A n c]] w fun e w' => e = .returned (.bool false) ∧ Below w.heap.size w w' := by
  obtain ⟨k, hk⟩ : ∃ k, o.k = k := ⟨_, rfl⟩
  obtain ⟨p, hp⟩ : ∃ p, o.p = p := ⟨_, rfl⟩
  obtain ⟨s, hs⟩ : ∃ s, o.s = s := ⟨_, rfl⟩
  rw [hk, hp, hs]
  obtain ⟨w0, hw0⟩ : ∃ w0, w.alloc (.cells #[.int .i64 k, .int .i64 p, .int .i64 s, .slice A n c] 32) = w0 := ⟨_, rfl⟩
  have hB0 : Blk w0 w.heap.size 32 #[.int .i64 k, .int .i64 p, .int .i64 s, .slice A n c] := by rw [← hw0]; exact Blk.new _ _ _
  have hb0 : Below w.heap.size w w0 := by rw [← hw0]; exact (Below.refl _ _).alloc (Nat.le_refl _) _
  have c0 : w0.cell? ⟨w.heap.size, 0, none⟩ = some (.int .i64 k) := hB0.cell 0
  have c1 : w0.cell? ⟨w.heap.size, 1, none⟩ = some (.int .i64 p) := hB0.cell 1
  have c2 : w0.cell? ⟨w.heap.size, 2, none⟩ = some (.int .i64 s) := hB0.cell 2
  have c3 : w0.cell? ⟨w.heap.size, 3, none⟩ = some (.slice A n c) := hB0.cell 3
  have HO := Lib.hid hb0
  have HA := Lib.hid (hA.below hb0)
  by_cases h0 : k = 0
  · have H1 := Lib.hid (set_nil p s w0)
    subst h0
    clear hk hp hs hB0 hb0 hA hl HA
    go_enter Try.func15, Try.ntmps15
    go_wp2_with (go_at_call 29; refine Calls.mono H1.out ?_; rintro e w' ⟨rfl, rfl⟩)
    go_ret
    exact ⟨rfl, HO.out⟩
  by_cases h1 : k = 1
  · have H1 := Lib.hid (clear_nil p w0)
    subst h1
    clear h0 hk hp hs hB0 hb0 hA hl HA
    go_enter Try.func15, Try.ntmps15
    go_wp2_with (go_at_call 30; refine Calls.mono H1.out ?_; rintro e w' ⟨rfl, rfl⟩)
    go_ret
    exact ⟨rfl, HO.out⟩
  by_cases h2 : k = 2
  · obtain ⟨bs, hbs⟩ : ∃ bs, o.B = bs := ⟨_, rfl⟩
    rw [hbs] at hl HA
    obtain ⟨v', w2, hrun, hown, hb2⟩ := app_copy w0 bs n A c hl hn HA.out
    have hsz : w.heap.size < w0.heap.size := hB0.lt
    have HRUN := Lib.hid hrun
    have k1 : w2.cell? ⟨w.heap.size, 1, none⟩ = some (.int .i64 p) := (hb2.cell (p := ⟨w.heap.size, 1, none⟩) hsz).trans c1
    have HR : Hid (∀ w'', Below w0.heap.size w2 w'' → Below w.heap.size w w'') := Lib.hid (fun w'' hb =>
      hb0.trans ((hb2.trans hb).mono (Nat.le_of_lt hsz)))
    subst h2
    rcases own_cases hown with ⟨rfl, hn0⟩ | ⟨g2, c2', rfl, hg2, hrw⟩
    · have H1 := Lib.hid (lay_nil p none 0 0 w2)
      clear h0 h1 hk hp hs hB0 hb0 hA hl HA hbs hrun hown hb2 hn0
      go_enter Try.func15, Try.ntmps15
      go_wp2_with (first
        | (at_builtin; refine wpList_app rfl _ _ 30 rfl _ _ _ _ rfl rfl HRUN.out ?_)
        | (go_at_call 28; refine Calls.mono H1.out ?_; rintro e w3 ⟨rfl, rfl⟩))
      go_loopw [7] (fun iv wr => iv = .int .i64 0 ∧ wr = w2) (fun iv _ => 0)
      case atStart => exact ⟨rfl, rfl⟩
      case round =>
        obtain ⟨rfl, rfl⟩ := hrel
        go_wp2_with fail
        go_ret
        exact ⟨rfl, HR.out _ (Below.refl _ _)⟩
    · have H1 := Lib.hid (lay_nil p (some ⟨g2, 0, none⟩) n c2' w2)
      have HRW := Lib.hid hrw
      clear h0 h1 hk hp hs hB0 hb0 hA hl HA hbs hrun hown hb2 hrw
      go_enter Try.func15, Try.ntmps15
      go_wp2_with (first
        | (at_builtin; refine wpList_app rfl _ _ 30 rfl _ _ _ _ rfl rfl HRUN.out ?_)
        | (go_at_call 28; refine Calls.mono H1.out ?_; rintro e w3 ⟨rfl, rfl⟩))
      have HI0 : Hid ((∃ cs, Rw w2 g2 n c2' cs) ∧ Below w0.heap.size w2 w2) := Lib.hid ⟨⟨bs, HRW.out⟩, Below.refl _ _⟩
      clear HRW
      go_loopw [7] (fun iv wr => ∃ i : Nat, i ≤ n ∧ iv = .int .i64 (i : Int) ∧ Hid ((∃ cs, Rw wr g2 n c2' cs) ∧ Below w0.heap.size w2 wr)) (fun iv _ => n - (intOf iv).toNat)
      case atStart => exact ⟨0, Nat.zero_le _, rfl, HI0⟩
      case round =>
        clear HI0
        obtain ⟨i, hi, rfl, hI⟩ := hrel
        by_cases hlt : i < n
        · have hd : decide ((i : Int) < (n : Int)) = true := by simpa using hlt
          obtain ⟨⟨cs, hR⟩, hBl⟩ := hI.out
          obtain ⟨u, hu⟩ := Option.isSome_iff_exists.1 (hR.there i (Nat.lt_of_lt_of_le hlt hR.le)).1
          have f0 := (hR.there i (Nat.lt_of_lt_of_le hlt hR.le)).2
          have HI2 : Hid ((∃ cs, Rw (wr.setCell ⟨g2, i, none⟩ (.int .u8 85)) g2 n c2' cs) ∧ Below w0.heap.size w2 (wr.setCell ⟨g2, i, none⟩ (.int .u8 85))) := Lib.hid ⟨⟨_, hR.set i hlt 85⟩, hBl.setCell (p := ⟨g2, i, none⟩) hg2 _⟩
          clear hI hR hBl
          go_wp2_with fail
          go_roundw
          case rel => exact ⟨i + 1, by omega, by go_num, HI2⟩
          case measure => simp [intOf]; omega
        · obtain rfl : n = i := by omega
          have hd : decide ((n : Int) < (n : Int)) = false := by simp
          go_wp2_with fail
          go_ret
          exact ⟨rfl, HR.out _ hI.out.2⟩
  · have d0 : (k == 0) = false := by simpa using h0
    have d1 : (k == 1) = false := by simpa using h1
    have d2 : (k == 2) = false := by simpa using h2
    clear h0 h1 h2 hk hp hs hB0 hb0 hA hl HA
    go_enter Try.func15, Try.ntmps15
    go_wp2_with fail
    go_ret
    exact ⟨rfl, HO.out⟩
set_option maxRecDepth 20000 in
set_option maxHeartbeats 2000000 in
theorem meant_some (g n c : Nat) (A : Option Addr) (L : List Nat) (o : Ou) (w : World) (h : PR w g L) (hl : o.B.length = n) (hA : Bytes w A o.B) (hne : 0 < n → ∀ q : Addr, A = some q → q.block ≠ g) :
    Calls Try.prog 16 #[.pointer (some ⟨g, 0, none⟩), .agg #[.int .i64 o.k, .int .i64 o.p, .int .i64 o.s, .slice A n c]] w fun e w' => e = .returned (.bool (doesB L o)) ∧ StR w w' g (doesL L o) := by
  obtain ⟨k, hk⟩ : ∃ k, o.k = k := ⟨_, rfl⟩
  obtain ⟨p, hp⟩ : ∃ p, o.p = p := ⟨_, rfl⟩
  obtain ⟨s, hs⟩ : ∃ s, o.s = s := ⟨_, rfl⟩
  rw [hk, hp, hs]
  obtain ⟨w0, hw0⟩ : ∃ w0, w.alloc (.cells #[.int .i64 k, .int .i64 p, .int .i64 s, .slice A n c] 32) = w0 := ⟨_, rfl⟩
  have hB0 : Blk w0 w.heap.size 32 #[.int .i64 k, .int .i64 p, .int .i64 s, .slice A n c] := by rw [← hw0]; exact Blk.new _ _ _
  have hb0 : Below w.heap.size w w0 := by rw [← hw0]; exact (Below.refl _ _).alloc (Nat.le_refl _) _
  have c0 : w0.cell? ⟨w.heap.size, 0, none⟩ = some (.int .i64 k) := hB0.cell 0
  have c1 : w0.cell? ⟨w.heap.size, 1, none⟩ = some (.int .i64 p) := hB0.cell 1
  have c2 : w0.cell? ⟨w.heap.size, 2, none⟩ = some (.int .i64 s) := hB0.cell 2
  have c3 : w0.cell? ⟨w.heap.size, 3, none⟩ = some (.slice A n c) := hB0.cell 3
  have HP := Lib.hid (h.below hb0)
  have HO : Hid (∀ w' L', StR w0 w' g L' → StR w w' g L') := Lib.hid (fun w' L' hs => ⟨hs.1, (Off.of_new hb0 _).trans hs.2⟩)
  have HA := Lib.hid (hA.below hb0)
  by_cases h0 : k = 0
  · have eB : doesB L o = setB p s := by unfold doesB; rw [hk, if_pos h0, hp, hs]
    have eL : doesL L o = setL L p s := by unfold doesL; rw [hk, if_pos h0, hp, hs]
    rw [eB, eL]
    have H1 := Lib.hid (rset_some g L p s w0 HP.out)
    subst h0
    clear hk hp hs hB0 hb0 h hA hl eB eL HA
    go_enter Try.func16, Try.ntmps16
    go_wp2_with (go_at_call 31; refine Calls.mono H1.out ?_; rintro e w' ⟨rfl, hS⟩)
    go_ret
    exact ⟨rfl, HO.out _ _ hS⟩
  by_cases h1 : k = 1
  · have eB : doesB L o = clearB L p := by unfold doesB; rw [hk, if_neg h0, if_pos h1, hp]
    have eL : doesL L o = clearL L p := by unfold doesL; rw [hk, if_neg h0, if_pos h1, hp]
    rw [eB, eL]
    have H1 := Lib.hid (rclear_some g L p w0 HP.out)
    subst h1
    clear h0 hk hp hs hB0 hb0 h hA hl eB eL HA
    go_enter Try.func16, Try.ntmps16
    go_wp2_with (go_at_call 32; refine Calls.mono H1.out ?_; rintro e w' ⟨rfl, hS⟩)
    go_ret
    exact ⟨rfl, HO.out _ _ hS⟩
  by_cases h2 : k = 2
  · have eB : doesB L o = layB p o.B := by unfold doesB; rw [hk, if_neg h0, if_neg h1, if_pos h2, hp]
    have eL : doesL L o = layL L p o.B := by unfold doesL; rw [hk, if_neg h0, if_neg h1, if_pos h2, hp]
    rw [eB, eL]
    obtain ⟨bs, hbs⟩ : ∃ bs, o.B = bs := ⟨_, rfl⟩
    rw [hbs] at hl HA ⊢
    have H1 := Lib.hid (rlay_some g n c p A L bs w0 HP.out hl HA.out hne)
    obtain ⟨bl, hbl⟩ : ∃ bl, layB p bs = bl := ⟨_, rfl⟩
    rw [hbl] at H1 ⊢
    subst h2
    clear h0 h1 hk hp hs hB0 hb0 h hA hl eB eL HA hbs hne
    go_enter Try.func16, Try.ntmps16
    go_wp2_with (go_at_call 33; refine Calls.mono H1.out ?_; rintro e w' ⟨rfl, hS⟩)
    go_ret
    exact ⟨rfl, HO.out _ _ hS⟩
  · have eB : doesB L o = false := by unfold doesB; rw [hk, if_neg h0, if_neg h1, if_neg h2]
    have eL : doesL L o = L := by unfold doesL; rw [hk, if_neg h0, if_neg h1, if_neg h2]
    rw [eB, eL]
    have d0 : (k == 0) = false := by simpa using h0
    have d1 : (k == 1) = false := by simpa using h1
    have d2 : (k == 2) = false := by simpa using h2
    have HS := Lib.hid (HO.out w0 L ⟨HP.out, Off.refl _ _⟩)
    clear h0 h1 h2 hk hp hs hB0 hb0 h hA hl eB eL HA
    go_enter Try.func16, Try.ntmps16
    go_wp2_with fail
    go_ret
    exact ⟨rfl, HS.out⟩
end Go.Proofs.Ytcmaehilgeonjaa
