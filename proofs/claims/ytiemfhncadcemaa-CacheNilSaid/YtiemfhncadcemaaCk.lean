/- cache: makeRoom where there is none. -/
import Derived.Test.YtiemfhncadcemaaCj
namespace Go.Proofs.Ytiemfhncadcemaa
open Go.RowKit Dsk
theorem uniq : ∀ {L : List Fr}, L.Pairwise (fun x y => x.s ≠ y.s) → ∀ {x y : Fr}, x ∈ L → y ∈ L → x.s = y.s → x = y
  | [], _, _, _, h, _, _ => by cases h
  | a :: L, hp, x, y, hx, hy, e => by
    obtain ⟨h1, h2⟩ := List.pairwise_cons.1 hp
    rcases List.mem_cons.1 hx with hx | hx
    · rcases List.mem_cons.1 hy with hy | hy
      · rw [hx, hy]
      · exact absurd e (by rw [hx]; exact h1 y hy)
    · rcases List.mem_cons.1 hy with hy | hy
      · exact absurd e.symm (by rw [hy]; exact h1 x hx)
      · exact uniq h2 hx hy e
section
variable {w0 w : World} {X E : Nat → Prop} {g dg mb n most time : Nat} {B : Nat → Nat} {L : List Fr} {D : DS}
set_option maxRecDepth 20000 in
set_option maxHeartbeats 2000000 in
theorem room_no (h : RunC w0 w X g dg mb n most time B L D E) (hl : most ≤ L.length) (hP : D.P.length < 1000000) (hS : D.steps < 1000000000) :
    Calls Try.prog 41 #[.pointer (some ⟨g, 0, none⟩)] w fun e w' =>
      ((∀ x ∈ L, x.pins ≠ 0) ∧ e = .returned (.int .i64 3) ∧ RunC w0 w' X g dg mb n most time B L D E ∧ Keep X w w') ∨
      ∃ x ∈ L, x.pins = 0 ∧ e = .returned (.int .i64 (outE D x)) ∧ RunC w0 w' X g dg mb n most time B (outL D x L) (outD D x) E ∧ Keep X w w' := by
  obtain ⟨c0, c1, c2, c3, _⟩ := h.cm.head.told
  have hlen : ∀ q ty, (Builtin.len_ #[63] ty #[.map (some mb)]).run Try.prog (w.drewN q) = .ok (.int .i64 (L.length : Int)) (w.drewN q) := fun q ty => (h.cm.below (drewN_below w q)).map.len ty
  obtain ⟨DD, hown, _, hSS⟩ := h.cm.map
  have HS := Lib.hid hSS
  have HH := Lib.hid h
  have HP := Lib.hid (And.intro hP hS)
  have HSUB0 : Hid (∀ z, Maps.has DD z = true → Maps.has DD z = true) := Lib.hid fun z h => h
  have HALL : Hid (∀ x ∈ L, Maps.has DD (.int .i64 (x.s : Int)) = true) := Lib.hid (fun x hx => by
    rw [(hSS _ (WalkArith.wf_i64 (by have := (h.cm.secs x hx).2.1; omega))).2, atS_of hx]; rfl)
  obtain ⟨l, hll⟩ : ∃ l, L.length = l := ⟨_, rfl⟩
  rw [hll] at hlen hl
  have hlt : decide ((l : Int) < (most : Int)) = false := by simp; omega
  have hltn : decide (l < most) = false := by simp; omega
  clear h hll hSS hP hS
  go_enter Try.func41, Try.ntmps41
  go_wp2_with fail
  go_quiet (fail)
  go_wp2_with (first
    | (at_range; refine wpList_range_own _ rfl _ 63 rfl 3 68 (Maps.int_keyed Try.underlying3) Try.underlying63 _ mb n DD rfl hown ?_; intro wr0 hrg0 hg0 hs0)
    | go_in)
  go_frame
  have hdr : (w.drewN nq).heap.size = w.heap.size := rfl
  try simp only [hlt]
  try simp only [hltn]
  try simp only [hdr]
  clear hdr
  go_loopw [3, 4, 5, 6] (fun ov fv _ _ wr => ∃ (left : Lit → Bool) (cnt : Nat) (o : Int) (f : Bool), wr.ranges Try.prog 3 ptrR mb w.heap.size n DD left cnt ∧ ov = .int .i64 o ∧ fv = .bool f ∧ Hid (∀ z, left z = true → Maps.has DD z = true) ∧ Hid (Below w.heap.size w wr) ∧
      Hid ((f = false ∧ ∀ x ∈ L, left (.int .i64 (x.s : Int)) = false → x.pins ≠ 0) ∨ (f = true ∧ ∃ x0 ∈ L, o = (x0.s : Int) ∧ x0.pins = 0)))
    (fun _ _ _ _ wr => wr.rangeLeft mb w.heap.size)
  case atStart =>
    refine ⟨_, _, 0, false, hrg0, rfl, rfl, HSUB0, Lib.hid ?_, Lib.hid (.inl ⟨rfl, fun x hx h0 => by rw [HALL.out x hx] at h0; cases h0⟩)⟩
    exact ⟨hg0.os, hg0.tape, hg0.output, hg0.size, fun k hk => hg0.block k hk (by simp)⟩
  case round =>
    obtain ⟨left, cnt, o, f, hrg, rfl, rfl, HSUB, HB, HOR⟩ := hrel
    have HC := Lib.hid (HH.out.below HB.out)
    obtain ⟨c0, c1, c2, c3, _⟩ := HC.out.1.cm.head.told
    go_wp2_with (first
      | (at_next; refine next_ptr _ rfl _ rfl (atS B L) mb w.heap.size n DD left cnt HS.out HSUB.out rfl hrg ?_ ?_)
      | go_in)
    · intro hc0 hl0
      clear hrg
      cases f with
      | false =>
        have HALLP : Hid (∀ x ∈ L, x.pins ≠ 0) := Lib.hid (by
          rcases HOR.out with ⟨_, h2⟩ | ⟨h1, _⟩
          · exact fun x hx => h2 x hx (hl0 _)
          · cases h1)
        clear HOR
        go_wp2_with fail
        go_ret
        exact .inl ⟨HALLP.out, rfl, HC.out⟩
      | true =>
        obtain ⟨x0, hx0, rfl, hp0⟩ : ∃ x0 ∈ L, o = (x0.s : Int) ∧ x0.pins = 0 := by
          rcases HOR.out with ⟨h1, _⟩ | ⟨_, h2⟩
          · cases h1
          · exact h2
        have HX0 := Lib.hid (And.intro hx0 hp0)
        have H1 := Lib.hid (putOut_any HC.out.1 hx0 HP.out.1 HP.out.2)
        clear HOR hx0 hp0
        go_wp2_with fail
        refine H1.out.mono ?_
        rintro e w2 ⟨rfl, hrc, hk⟩
        have HRC := Lib.hid (And.intro hrc (HC.out.2.trans hk))
        clear hrc hk
        go_wp2_with fail
        go_ret
        exact .inr ⟨x0, HX0.out.1, HX0.out.2, rfl, HRC.out⟩
    · intro x f0 w1 cnt1 hwx hlx hfx hrg1 hlt1 hg1 hs1 hen
      obtain ⟨y, hy, rfl, rfl⟩ := atS_some hfx
      have hb1 : Below w.heap.size w w1 := ⟨hg1.os.trans HB.out.os, hg1.tape.trans HB.out.tape, hg1.output.trans HB.out.output, Nat.le_trans HB.out.size hg1.size, fun k hk => (hg1.block k (Nat.lt_of_lt_of_le hk HB.out.size) (by simp; omega)).trans (HB.out.block k hk)⟩
      have HB1 : Hid (∀ q, Below w.heap.size w (w1.drewN q)) := Lib.hid (fun q => hb1.trans ((drewN_below w1 q).mono hb1.size))
      have HC1 := Lib.hid (HH.out.below hb1)
      obtain ⟨c0, c1, c2, c3, _⟩ := HC1.out.1.cm.head.told
      obtain ⟨v, hf, _⟩ := HC1.out.1.cm.frm y hy
      obtain ⟨f0, f1, f2, f3, _⟩ := hf.told
      have HSUB1 : Hid (∀ z, (left z && !z.sameKey (.int .i64 (y.s : Int))) = true → Maps.has DD z = true) := Lib.hid (fun z hz => HSUB.out z (by
        cases hh : left z with
        | true => rfl
        | false => rw [hh] at hz; cases hz))
      have HR := Lib.hid hrg
      have HR1 : Hid (∀ q, (w1.drewN q).ranges Try.prog 3 ptrR mb w.heap.size n DD (fun z => left z && !z.sameKey (.int .i64 (y.s : Int))) cnt1) := Lib.hid (fun q => hrg1)
      have HLT := Lib.hid hlt1
      have HNP : Hid (∀ p : Nat, y.pins = p → p ≠ 0 → f = false → (∀ x ∈ L, left (.int .i64 (x.s : Int)) = false → x.pins ≠ 0) → ∀ x ∈ L, (left (.int .i64 (x.s : Int)) && !(Lit.int .i64 (x.s : Int)).sameKey (.int .i64 (y.s : Int))) = false → x.pins ≠ 0) := Lib.hid (fun p hp hp0 _ hall x hx hz => by
        by_cases e : x.s = y.s
        · have : x = y := uniq HH.out.cm.nodup hx hy e
          rw [this, hp]; exact hp0
        · have hs : (Lit.int .i64 (x.s : Int)).sameKey (.int .i64 (y.s : Int)) = false := by rw [same_int]; simp; omega
          rw [hs] at hz
          exact hall x hx (by simpa using hz))
      have HY := Lib.hid hy
      obtain ⟨bf, hbf⟩ : ∃ bf, B y.s = bf := ⟨_, rfl⟩
      obtain ⟨pp, hpp⟩ : ∃ pp, y.pins = pp := ⟨_, rfl⟩
      obtain ⟨uu, huu⟩ : ∃ uu, y.used = uu := ⟨_, rfl⟩
      have HPP := Lib.hid hpp
      rw [hbf] at f0 f1 f2 f3 hen ⊢
      rw [hpp] at f2
      rw [huu] at f3
      clear hfx hy hwx hlx hg1 hs1 hb1 hf hbf hpp huu hrg hrg1 hlt1 hlen
      by_cases hp : pp = 0
      · have hpe : ((pp : Int) == 0) = true := by simp; omega
        cases f with
        | false =>
          go_wp2_with fail
          go_quiet (fail)
          go_wp2_with fail
          go_roundw
          case rel => exact ⟨_, cnt1, _, true, HR1.out _, rfl, rfl, HSUB1, Lib.hid (HB1.out _), Lib.hid (.inr ⟨rfl, y, HY.out, rfl, by rw [HPP.out, hp]⟩)⟩
          case measure => rw [(HR1.out _).left_eq, HR.out.left_eq]; exact HLT.out
        | true =>
          obtain ⟨x0, hx0, rfl, hp0⟩ : ∃ x0 ∈ L, o = (x0.s : Int) ∧ x0.pins = 0 := by
            rcases HOR.out with ⟨h1, _⟩ | ⟨_, h2⟩
            · cases h1
            · exact h2
          have hlk : ∀ q, (Instr.lookup 63 (.map (some mb)) (.int .i64 (x0.s : Int)) false).run Try.prog (w1.drewN q) = .ok (.pointer (some ⟨B x0.s, 0, none⟩)) (w1.drewN q) := fun q => (HH.out.below (HB1.out q)).1.cm.look_yes hx0
          obtain ⟨v0, hf0, _⟩ := HC1.out.1.cm.frm x0 hx0
          obtain ⟨d0, d1, d2, d3, _⟩ := hf0.told
          have HX0 := Lib.hid (And.intro hx0 hp0)
          obtain ⟨b0, hb0⟩ : ∃ b0, B x0.s = b0 := ⟨_, rfl⟩
          obtain ⟨u0, hu0⟩ : ∃ u0, x0.used = u0 := ⟨_, rfl⟩
          rw [hb0] at hlk d0 d1 d2 d3
          rw [hu0] at d3
          clear hx0 hp0 hf0 hb0 hu0
          by_cases hu : uu < u0
          · have hud : decide ((uu : Int) < (u0 : Int)) = true := by simpa using hu
            go_wp2_with fail
            go_quiet (fail)
            go_wp2_with fail
            go_roundw
            case rel => exact ⟨_, cnt1, _, true, HR1.out _, rfl, rfl, HSUB1, Lib.hid (HB1.out _), Lib.hid (.inr ⟨rfl, y, HY.out, rfl, by rw [HPP.out, hp]⟩)⟩
            case measure => rw [(HR1.out _).left_eq, HR.out.left_eq]; exact HLT.out
          · have hud : decide ((uu : Int) < (u0 : Int)) = false := by simpa using hu
            go_wp2_with fail
            go_quiet (fail)
            go_wp2_with fail
            go_roundw
            case rel => exact ⟨_, cnt1, _, true, HR1.out _, rfl, rfl, HSUB1, Lib.hid (HB1.out _), Lib.hid (.inr ⟨rfl, x0, HX0.out.1, rfl, HX0.out.2⟩)⟩
            case measure => rw [(HR1.out _).left_eq, HR.out.left_eq]; exact HLT.out
      · have hpe : ((pp : Int) == 0) = false := by simp; omega
        have HO2 : Hid ((f = false ∧ ∀ x ∈ L, (left (.int .i64 (x.s : Int)) && !(Lit.int .i64 (x.s : Int)).sameKey (.int .i64 (y.s : Int))) = false → x.pins ≠ 0) ∨ (f = true ∧ ∃ x0 ∈ L, o = (x0.s : Int) ∧ x0.pins = 0)) := Lib.hid (by
          rcases HOR.out with ⟨h1, h2⟩ | h2
          · exact .inl ⟨h1, HNP.out pp HPP.out hp h1 h2⟩
          · exact .inr h2)
        go_wp2_with fail
        go_quiet (fail)
        go_wp2_with fail
        go_roundw
        case rel => exact ⟨_, cnt1, o, f, HR1.out _, rfl, rfl, HSUB1, Lib.hid (HB1.out _), HO2⟩
        case measure => rw [(HR1.out _).left_eq, HR.out.left_eq]; exact HLT.out
end
end Go.Proofs.Ytiemfhncadcemaa
