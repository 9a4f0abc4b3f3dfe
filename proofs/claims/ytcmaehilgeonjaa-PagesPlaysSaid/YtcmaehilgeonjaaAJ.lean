/- pages: does, meant. -/
import Derived.Test.YtcmaehilgeonjaaAI
namespace Go.Proofs.Ytcmaehilgeonjaa
open Go.RowKit Pgs
theorem Rw.set {w : World} {g n c : Nat} {xs : List UInt8} (h : Rw w g n c xs) (k : Nat) (hk : k < n) (d : UInt8) : Rw (w.setCell ⟨g, k, none⟩ (bv d)) g n c (xs.set k d) := by
  have hold := (h.there k (Nat.lt_of_lt_of_le hk h.le)).1
  obtain ⟨u, hu⟩ := Option.isSome_iff_exists.1 hold
  have hne : ∀ j, j ≠ k → (w.setCell ⟨g, k, none⟩ (bv d)).cell? ⟨g, j, none⟩ = w.cell? ⟨g, j, none⟩ := fun j hj => World.cell?_setCell_other w ⟨g, k, none⟩ ⟨g, j, none⟩ _ (by intro e; injection e with _ e; exact hj e.symm)
  have hsame := World.cell?_setCell_same w ⟨g, k, none⟩ (bv d) hu
  refine ⟨by simp [World.setCell]; exact h.lt, by rw [List.length_set]; exact h.long, h.le, h.max, fun j e hj => ?_, fun j hj => ⟨?_, (World.frozen?_setCell _ _ _ _).trans (h.there j hj).2⟩⟩
  · by_cases hjk : j = k
    · subst hjk
      rw [List.getElem?_set_self (by rw [h.long]; exact hk)] at hj
      injection hj with hj
      subst hj
      exact hsame
    · rw [hne j hjk]
      rw [List.getElem?_set_ne (fun e => hjk e.symm)] at hj
      exact h.holds j e hj
  · by_cases hjk : j = k
    · subst hjk; rw [hsame]; rfl
    · rw [hne j hjk]; exact (h.there j hj).1

namespace Pgs
def doesB (L : List Nat) (o : Ou) : Bool := if o.k = 0 then setB o.p o.s else if o.k = 1 then clearB L o.p else if o.k = 2 then layB o.p o.B else false
def doesL (L : List Nat) (o : Ou) : List Nat := if o.k = 0 then setL L o.p o.s else if o.k = 1 then clearL L o.p else if o.k = 2 then layL L o.p o.B else L
theorem doesL_ok {L : List Nat} (h : Ok L) (o : Ou) : Ok (doesL L o) := by
  unfold doesL
  split
  · exact setL_ok h _ _
  · split
    · exact clearL_ok h _
    · split
      · exact layL_ok h _ _
      · exact h
end Pgs
/-- A copy of bytes, by append to none. -/
theorem app_copy (w : World) (bs : List UInt8) (n : Nat) (A : Option Addr) (c : Nat) (hl : bs.length = n) (hn : n ≤ 1024) (hA : Bytes w A bs) :
    ∃ v' w', (Builtin.append_ #[30, 30] 30 #[.slice (some ⟨w.heap.size, 0, none⟩) 0 0, .slice A n c]).run Try.prog (w.alloc (.cells #[] 5)) = .ok v' w' ∧ w'.ownsRow w.heap.size 5 1 v' n (bs.map bv) ∧ Below w.heap.size w w' := by
  have hb : Below w.heap.size w (w.alloc (.cells #[] 5)) := (Below.refl _ _).alloc (Nat.le_refl _) _
  have hB := Blk.new w 5 #[]
  have hown : (w.alloc (.cells #[] 5)).ownsRow w.heap.size 5 1 (.slice (some ⟨w.heap.size, 0, none⟩) 0 0) 0 (([] : List UInt8).map bv) :=
    ⟨rfl, .inr ⟨w.heap.size, 0, #[], rfl, Nat.le_refl _, hB, Nat.le_refl _, Nat.zero_le _, rfl, rfl⟩⟩
  obtain ⟨v', w', hrun, ho, hg⟩ := run_app8 (w.alloc (.cells #[] 5)) w.heap.size _ 0 [] hown A n c bs hl (hA.below hb) (by omega) (by rw [World.size_alloc]; omega)
  refine ⟨v', w', hrun, by rw [Nat.zero_add] at ho; exact ho, hb.grown hg (by rw [World.size_alloc]; omega) (fun k hk => ?_)⟩
  cases hk
  exact Nat.le_refl _
/-- A row of bytes of one's own, or none. -/
theorem own_cases {w : World} {base n : Nat} {v : Value} {bs : List UInt8} (h : w.ownsRow base 5 1 v n (bs.map bv)) : (v = .slice none 0 0 ∧ n = 0) ∨ ∃ g c, v = .slice (some ⟨g, 0, none⟩) n c ∧ base ≤ g ∧ Rw w g n c bs := by
  have h0 := h
  rcases h.2 with ⟨e, hn⟩ | ⟨g, cap, cur, e, hb, _⟩
  · exact .inl ⟨e, hn⟩
  · subst e
    exact .inr ⟨g, cap, rfl, hb, Rw.of_own h0⟩
set_option maxRecDepth 20000 in
set_option maxHeartbeats 2000000 in
theorem does_some (g n c : Nat) (A : Option Addr) (L : List Nat) (o : Ou) (w : World) (h : PM w g L) (hl : o.B.length = n) (hn : n ≤ 1024) (hA : Bytes w A o.B) :
    Calls Try.prog 15 #[.pointer (some ⟨g, 0, none⟩), .agg #[.int .i64 o.k, .int .i64 o.p, .int .i64 o.s, .slice A n c]] w fun e w' => e = .returned (.bool (doesB L o)) ∧ Stp w w' g (doesL L o) := by
  obtain ⟨k, hk⟩ : ∃ k, o.k = k := ⟨_, rfl⟩
  obtain ⟨p, hp⟩ : ∃ p, o.p = p := ⟨_, rfl⟩
  obtain ⟨s, hs⟩ : ∃ s, o.s = s := ⟨_, rfl⟩
  rw [hk, hp, hs]
  obtain ⟨w0, hw0⟩ : ∃ w0, w.alloc (.cells #[.int .i64 k, .int .i64 p, .int .i64 s, .slice A n c] 32) = w0 := ⟨_, rfl⟩
  have hB0 : Blk w0 w.heap.size 32 #[.int .i64 k, .int .i64 p, .int .i64 s, .slice A n c] := by rw [← hw0]; exact Blk.new _ _ _
  have hb0 : Below w.heap.size w w0 := by rw [← hw0]; exact (Below.refl _ _).alloc (Nat.le_refl _) _
  have c0 : w0.cell? ⟨w.heap.size, 0, none⟩ = some (.int .i64 k) := hB0.cell 0
  have c1 : w0.cell? ⟨w.heap.size, 1, none⟩ = some (.int .i64 p) := hB0.cell 1
  have c2 : w0.cell? ⟨w.heap.size, 2, none⟩ = some (.int .i64 s) := hB0.cell 2
  have c3 : w0.cell? ⟨w.heap.size, 3, none⟩ = some (.slice A n c) := hB0.cell 3
  have HP := Lib.hid (h.below hb0)
  have HO : Hid (∀ w' L', Stp w0 w' g L' → Stp w w' g L') := Lib.hid (fun w' L' hs => ⟨hs.1, (Off.of_new hb0 _).trans hs.2⟩)
  have hgl : g < w.heap.size := h.blk.lt
  have HA := Lib.hid (hA.below hb0)
  by_cases h0 : k = 0
  · have eB : doesB L o = setB p s := by unfold doesB; rw [hk, if_pos h0, hp, hs]
    have eL : doesL L o = setL L p s := by unfold doesL; rw [hk, if_pos h0, hp, hs]
    rw [eB, eL]
    have H1 := Lib.hid (set_some g L p s w0 HP.out)
    subst h0
    clear hk hp hs hB0 hb0 h hA hl eB eL HA
    go_enter Try.func15, Try.ntmps15
    go_wp2_with (go_at_call 29; refine Calls.mono H1.out ?_; rintro e w' ⟨rfl, hS⟩)
    go_ret
    exact ⟨rfl, HO.out _ _ hS⟩
  by_cases h1 : k = 1
  · have eB : doesB L o = clearB L p := by unfold doesB; rw [hk, if_neg h0, if_pos h1, hp]
    have eL : doesL L o = clearL L p := by unfold doesL; rw [hk, if_neg h0, if_pos h1, hp]
    rw [eB, eL]
    have H1 := Lib.hid (clear_some g L p w0 HP.out)
    subst h1
    clear h0 hk hp hs hB0 hb0 h hA hl eB eL HA
    go_enter Try.func15, Try.ntmps15
    go_wp2_with (go_at_call 30; refine Calls.mono H1.out ?_; rintro e w' ⟨rfl, hS⟩)
    go_ret
    exact ⟨rfl, HO.out _ _ hS⟩
  by_cases h2 : k = 2
  · have eB : doesB L o = layB p o.B := by unfold doesB; rw [hk, if_neg h0, if_neg h1, if_pos h2, hp]
    have eL : doesL L o = layL L p o.B := by unfold doesL; rw [hk, if_neg h0, if_neg h1, if_pos h2, hp]
    rw [eB, eL]
    obtain ⟨bs, hbs⟩ : ∃ bs, o.B = bs := ⟨_, rfl⟩
    rw [hbs] at hl HA ⊢
    obtain ⟨v', w2, hrun, hown, hb2⟩ := app_copy w0 bs n A c hl hn HA.out
    have hsz : w.heap.size < w0.heap.size := hB0.lt
    have HRUN := Lib.hid hrun
    have k1 : w2.cell? ⟨w.heap.size, 1, none⟩ = some (.int .i64 p) := (hb2.cell (p := ⟨w.heap.size, 1, none⟩) hsz).trans c1
    obtain ⟨bl, hbl⟩ : ∃ bl, layB p bs = bl := ⟨_, rfl⟩
    have HR : Hid (∀ w' w'' L', Stp w2 w' g L' → Below w0.heap.size w' w'' → Stp w w'' g L') := Lib.hid (fun w' w'' L' hs hb =>
      HO.out _ _ ⟨⟨Blk.off hs.1.blk (Off.of_below hb (fun j => w0.heap.size ≤ j) (fun j _ hj => hj)) (by omega), hs.1.ok⟩, ((Off.of_new hb2 _).trans hs.2).then (Off.of_below hb (fun j => w0.heap.size ≤ j) (fun j _ hj => hj)) (fun j h1 h2 => by omega)⟩)
    subst h2
    rcases own_cases hown with ⟨rfl, hn0⟩ | ⟨g2, c2', rfl, hg2, hrw⟩
    · have H1 := Lib.hid (lay_some g 0 0 p none L bs w2 (HP.out.below hb2) (by omega) (by rw [List.eq_nil_of_length_eq_zero (show bs.length = 0 by omega)]; exact Bytes.nil _ _))
      rw [hbl] at H1 ⊢
      clear h0 h1 hk hp hs hB0 hb0 h hA hl eB eL HA hbs hrun hown hb2 hn0
      go_enter Try.func15, Try.ntmps15
      go_wp2_with (first
        | (at_builtin; refine wpList_app rfl _ _ 30 rfl _ _ _ _ rfl rfl HRUN.out ?_)
        | (go_at_call 28; refine Calls.mono H1.out ?_; rintro e w3 ⟨rfl, hS⟩))
      go_loopw [7] (fun iv wr => iv = .int .i64 0 ∧ wr = w3) (fun iv _ => 0)
      case atStart => exact ⟨rfl, rfl⟩
      case round =>
        obtain ⟨rfl, rfl⟩ := hrel
        go_wp2_with fail
        go_ret
        exact ⟨rfl, HR.out _ _ _ hS (Below.refl _ _)⟩
    · have H1 := Lib.hid (lay_some g n c2' p _ L bs w2 (HP.out.below hb2) hl hrw.bytes)
      rw [hbl] at H1 ⊢
      have HRW := Lib.hid hrw
      have hne : g2 ≠ g := by omega
      clear h0 h1 hk hp hs hB0 hb0 h hA hl eB eL HA hbs hrun hown hb2 hrw
      go_enter Try.func15, Try.ntmps15
      go_wp2_with (first
        | (at_builtin; refine wpList_app rfl _ _ 30 rfl _ _ _ _ rfl rfl HRUN.out ?_)
        | (go_at_call 28; refine Calls.mono H1.out ?_; rintro e w3 ⟨rfl, hS⟩))
      have HS := Lib.hid hS
      have HI0 : Hid ((∃ cs, Rw w3 g2 n c2' cs) ∧ Below w0.heap.size w3 w3) := Lib.hid ⟨⟨bs, HRW.out.frame hS.2.size (hS.2.block g2 HRW.out.lt hne)⟩, Below.refl _ _⟩
      clear hS HRW
      go_loopw [7] (fun iv wr => ∃ i : Nat, i ≤ n ∧ iv = .int .i64 (i : Int) ∧ Hid ((∃ cs, Rw wr g2 n c2' cs) ∧ Below w0.heap.size w3 wr)) (fun iv _ => n - (intOf iv).toNat)
      case atStart => exact ⟨0, Nat.zero_le _, rfl, HI0⟩
      case round =>
        clear HI0
        obtain ⟨i, hi, rfl, hI⟩ := hrel
        by_cases hlt : i < n
        · have hd : decide ((i : Int) < (n : Int)) = true := by simpa using hlt
          obtain ⟨⟨cs, hR⟩, hBl⟩ := hI.out
          obtain ⟨u, hu⟩ := Option.isSome_iff_exists.1 (hR.there i (Nat.lt_of_lt_of_le hlt hR.le)).1
          have f0 := (hR.there i (Nat.lt_of_lt_of_le hlt hR.le)).2
          have HI2 : Hid ((∃ cs, Rw (wr.setCell ⟨g2, i, none⟩ (.int .u8 85)) g2 n c2' cs) ∧ Below w0.heap.size w3 (wr.setCell ⟨g2, i, none⟩ (.int .u8 85))) := Lib.hid ⟨⟨_, hR.set i hlt 85⟩, hBl.setCell (p := ⟨g2, i, none⟩) hg2 _⟩
          clear hI hR hBl
          go_wp2_with fail
          go_roundw
          case rel => exact ⟨i + 1, by omega, by go_num, HI2⟩
          case measure => simp [intOf]; omega
        · obtain rfl : n = i := by omega
          have hd : decide ((n : Int) < (n : Int)) = false := by simp
          go_wp2_with fail
          go_ret
          exact ⟨rfl, HR.out _ _ _ HS.out hI.out.2⟩
  · have eB : doesB L o = false := by unfold doesB; rw [hk, if_neg h0, if_neg h1, if_neg h2]
    have eL : doesL L o = L := by unfold doesL; rw [hk, if_neg h0, if_neg h1, if_neg h2]
    rw [eB, eL]
    have d0 : (k == 0) = false := by simpa using h0
    have d1 : (k == 1) = false := by simpa using h1
    have d2 : (k == 2) = false := by simpa using h2
    have HS := Lib.hid (HO.out w0 L ⟨HP.out, Off.refl _ _⟩)
    clear h0 h1 h2 hk hp hs hB0 hb0 h hA hl eB eL HA
    go_enter Try.func15, Try.ntmps15
    go_wp2_with fail
    go_ret
    exact ⟨rfl, HS.out⟩
end Go.Proofs.Ytcmaehilgeonjaa
