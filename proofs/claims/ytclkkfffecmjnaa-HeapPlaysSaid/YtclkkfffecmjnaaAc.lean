/- heap: does: Word, Set, Tie, Untie. -/
import Derived.Test.YtclkkfffecmjnaaAb
namespace Go.Proofs.Ytclkkfffecmjnaa
open Go.RowKit
set_option linter.unusedVariables false
section
variable {Q : Nat → World → Prop} {w : World} {o : Ov} {A : Option Addr} {c : Nat} {R : Option Addr} {d : Nat} {hp : Value}
set_option maxRecDepth 20000 in
set_option maxHeartbeats 4000000 in
theorem does_word (hQ : Stays Q w) (hv : OpV w o A c R d) (hf : Fits o) (hk : o.kind = 2) {z : Wd} {is : Bool}
    (hcall : ∀ w1 A1 c1, Below w.heap.size w w1 → WRow (w.heap.size + 3) w1 A1 o.o.ws.length c1 o.o.ws → (∀ p : Addr, A1 = some p → p.block < w1.heap.size) → Calls Try.prog 44 #[hp, .int .i64 o.k, .int .i64 o.i] w1 fun fn w' => fn = .returned (.tuple #[.agg #[.int .u8 (z.k : Int), .int .i64 z.n], .bool is]) ∧ Q w1.heap.size w' ∧ Keep (YD w w1.heap.size) w1 w') :
    Calls Try.prog 16 #[hp, .agg #[.int .i64 o.kind, .int .i64 o.k, .int .i64 o.i, .int .u8 (o.o.k : Int), .int .i64 o.o.tag, .slice A o.o.ws.length c, .string (str o.o.t), .int .u8 (o.w.k : Int), .int .i64 o.w.n, .slice R o.roots.length d]] w fun fn w' => fn = .returned (.agg #[.int .u8 0, .int .i64 0, .slice none 0 0, .string ⟨#[]⟩, .int .u8 (z.k : Int), .int .i64 z.n, .int .i64 0, .bool is, .int .i64 0]) ∧ ∃ b, Q b w' := by
  obtain ⟨kind, k, i, ⟨ok, tag, ws, t⟩, ⟨wk, wn⟩, roots⟩ := o
  obtain ⟨n, hn⟩ : ∃ n, ws.length = n := ⟨_, rfl⟩
  obtain ⟨m, hm⟩ : ∃ m, roots.length = m := ⟨_, rfl⟩
  have hk : kind = 2 := hk
  subst hk
  have hl : n ≤ 16384 := by rw [← hn]; exact hf.1
  have HCP := copyobj_any ⟨ok, tag, ws, t⟩ A c (wD w #[.int .i64 2, .int .i64 k, .int .i64 i, .int .u8 (ok : Int), .int .i64 tag, .slice A n c, .string (str t), .int .u8 (wk : Int), .int .i64 wn, .slice R m d]) (by have := hf.1; dsimp only at this ⊢; omega) (hv.words.below (wD_below _ _))
  have hz := Dz.new w #[.int .i64 2, .int .i64 k, .int .i64 i, .int .u8 (ok : Int), .int .i64 tag, .slice A n c, .string (str t), .int .u8 (wk : Int), .int .i64 wn, .slice R m d]
  dsimp only at hcall HCP hz ⊢
  rw [hn] at hcall HCP
  rw [hn, hm]
  have HC := Lib.hid (And.intro hcall (And.intro hQ (And.intro hn hz)))
  replace HCP := Lib.hid HCP
  clear hcall hQ hn hm hz hv hf
  go_enter Try.func16, Try.ntmps16
  go_wp2_with fail
  refine HCP.out.mono ?_
  rintro e wc ⟨v, A1, c1, rfl, hob, hb⟩
  obtain ⟨rfl, hrow⟩ := hob
  dsimp only at hrow ⊢
  rw [HC.out.2.2.1] at hrow ⊢
  rw [wD_size] at hrow
  obtain ⟨w1, hw1⟩ : ∃ w1, wc.alloc (.cells #[.int .u8 (ok : Int), .int .i64 tag, .slice A1 n c1, .string (str t)] 35) = w1 := ⟨_, rfl⟩
  have hsz := hb.size
  rw [wD_size] at hsz
  have hp1 := Dp.new (o := ⟨ok, tag, ws, t⟩) (HC.out.2.2.2.below hb) hsz (hrow.mono (by omega))
  dsimp only at hp1
  rw [hw1] at hp1
  have hs1 : w1.heap.size = wc.heap.size + 1 := by rw [← hw1]; simp
  have hbw : Below wc.heap.size wc w1 := by rw [← hw1]; exact (Below.refl _ _).alloc (Nat.le_refl _) _
  have hrow1 : WRow (w.heap.size + 3) w1 A1 n c1 ws := (hrow.mono (B' := w.heap.size + 3) (by omega)).below hbw
  have hb1 : Below w.heap.size w w1 := (wD_below w _).trans ((hb.mono (by rw [wD_size]; omega)).trans (by rw [← hw1]; exact (Below.refl _ _).alloc (by omega) _))
  have H1 := Lib.hid (HC.out.1 w1 A1 c1 hb1 hrow1 (fun p e => (hrow1.blk p e).2.2.2))
  rw [hs1] at H1
  have c0 := hp1.dz.op.cell 0
  have c1' := hp1.dz.op.cell 1
  have c2 := hp1.dz.op.cell 2
  have c7 := hp1.dz.op.cell 7
  have c8 := hp1.dz.op.cell 8
  have i0 := hp1.i.cell 0
  have i1 := hp1.i.cell 1
  have i2 := hp1.i.cell 2
  have i3 := hp1.i.cell 3
  simp only [List.getElem?_toArray, List.getElem?_cons_zero, List.getElem?_cons_succ] at c0 c1' c2 c7 c8 i0 i1 i2 i3
  have HP := Lib.hid hp1
  clear hp1 hs1 hb1 hb hbw hrow1 hsz hrow HCP
  go_wp2_with fail
  refine H1.out.mono ?_
  rintro e w2 ⟨rfl, hq, hkp⟩
  have hp2 := HP.out.keep hkp
  have x4 := hp2.dz.x.cell 4
  have x5 := hp2.dz.x.cell 5
  have x6 := hp2.dz.x.cell 6
  have x7 := hp2.dz.x.cell 7
  have x8 := hp2.dz.x.cell 8
  have xf := hp2.dz.x.frozen
  have j2 := hp2.i.cell 2
  simp only [told0, List.getElem?_toArray, List.getElem?_cons_zero, List.getElem?_cons_succ] at x4 x5 x6 x7 x8 j2
  have HF := Lib.hid (And.intro hq hp2)
  clear hq hp2 hkp H1 HP c0 c1' c2 c7 c8 i0 i1 i2 i3
  go_wp2_with fail
  obtain ⟨w3, hw3⟩ : ∃ w3, (((w2.setCell ⟨w.heap.size + 1 + 1, 4, none⟩ (.int .u8 (z.k : Int))).setCell ⟨w.heap.size + 1 + 1, 5, none⟩ (.int .i64 z.n)).setCell ⟨w.heap.size + 1 + 1, 7, none⟩ (.bool is)) = w3 := ⟨_, rfl⟩
  have hd0 : Dl Q w w3 #[.int .u8 0, .int .i64 0, .slice none 0 0, .string ⟨#[]⟩, .int .u8 (z.k : Int), .int .i64 z.n, .int .i64 0, .bool is, .int .i64 0] ⟨ok, tag, ws, t⟩ n A1 c1 wc.heap.size (wc.heap.size + 1) := by
    rw [← hw3]
    exact Dl.start HC.out.2.1 HF.out.2 HF.out.1 (offS (offS (Off.setc _ _ _ _) _ _ _ rfl) _ _ _ rfl) (((HF.out.2.dz.x.set_ 4 (.int .u8 (z.k : Int))).set_ 5 (.int .i64 z.n)).set_ 7 (.bool is))
  rw [hw3]
  have HD0 := Lib.hid hd0
  have HQ := Lib.hid HC.out.2.1
  clear hd0 hw3 HF HC x4 x5 x6 x7 x8 xf j2
  go_loopw [11] (fun iv wr => ∃ i : Nat, i ≤ n ∧ iv = .int .i64 (i : Int) ∧ Hid (Dl Q w wr #[.int .u8 0, .int .i64 0, .slice none 0 0, .string ⟨#[]⟩, .int .u8 (z.k : Int), .int .i64 z.n, .int .i64 0, .bool is, .int .i64 0] ⟨ok, tag, ws, t⟩ n A1 c1 wc.heap.size (wc.heap.size + 1))) (fun iv _ => n - (intOf iv).toNat)
  case atStart => exact ⟨0, Nat.zero_le _, rfl, HD0⟩
  case round =>
    clear HD0
    obtain ⟨r, hr, rfl, hI⟩ := hrel
    by_cases hlt : r < n
    · have hd : decide ((r : Int) < (n : Int)) = true := by simpa using hlt
      obtain ⟨ws2, hrow⟩ := hI.out.row
      obtain ⟨p, x, rfl, _, _, hpl, _, p0, p1, pf⟩ := hrow.at_ hlt
      have j2 := hI.out.i.cell 2
      have j2l := hI.out.i.lt
      simp only [List.getElem?_toArray, List.getElem?_cons_zero, List.getElem?_cons_succ] at j2
      clear hrow
      go_wp2_with fail
      go_region_with (first
        | (go_at_call 41; refine (number_any 77 _).mono ?_; rintro e v2 ⟨rfl, hb2⟩
           have hb2 : Below wr.heap.size wr v2 := Below.trans (⟨rfl, rfl, rfl, Nat.le_refl _, fun _ _ => rfl⟩ : Below wr.heap.size wr wr.drew) hb2
           have j2 := (hb2.cell (p := ⟨wc.heap.size, 2, none⟩) j2l).trans j2
           have p0 := (hb2.cell (p := ⟨p, r * 2, none⟩) hpl).trans p0
           have p1 := (hb2.cell (p := ⟨p, r * 2 + 1, none⟩) hpl).trans p1
           have pf : ∀ j, v2.frozen? ⟨p, j, none⟩ = false := fun j => (World.frozen?_of_block (a := ⟨p, j, none⟩) (hb2.block p hpl)).trans (pf j)
           have HI2 := Lib.hid ((hI.out.below HQ.out hb2).step HQ.out r ⟨1, 77⟩ ⟨by show 1 < 256; omega, by show (-9223372036854775808 : Int) ≤ 77; omega, by show (77 : Int) < 9223372036854775808; omega⟩)
           clear hb2))
      all_goals
        go_wp2_with fail
        go_roundw
        case rel => exact ⟨r + 1, by omega, by go_num, HI2⟩
        case measure => simp [intOf]; omega
    · obtain rfl : n = r := by omega
      have hd : decide ((n : Int) < (n : Int)) = false := by simp
      have j2 := hI.out.i.cell 2
      have x0 := hI.out.x.cell 0
      have x1 := hI.out.x.cell 1
      have x2 := hI.out.x.cell 2
      have x3 := hI.out.x.cell 3
      have x4 := hI.out.x.cell 4
      have x5 := hI.out.x.cell 5
      have x6 := hI.out.x.cell 6
      have x7 := hI.out.x.cell 7
      have x8 := hI.out.x.cell 8
      have y0 := hI.out.r.cell 0
      have y1 := hI.out.r.cell 1
      have y2 := hI.out.r.cell 2
      have y3 := hI.out.r.cell 3
      have y4 := hI.out.r.cell 4
      have y5 := hI.out.r.cell 5
      have y6 := hI.out.r.cell 6
      have y7 := hI.out.r.cell 7
      have y8 := hI.out.r.cell 8
      have yf := hI.out.r.frozen
      simp only [told0, List.getElem?_toArray, List.getElem?_cons_zero, List.getElem?_cons_succ] at j2 x0 x1 x2 x3 x4 x5 x6 x7 x8 y0 y1 y2 y3 y4 y5 y6 y7 y8
      have HI := Lib.hid hI.out
      clear hI
      go_wp2_with fail
      have HB9 := HI.out.r.set9 (.int .u8 0) (.int .i64 0) (.slice none 0 0) (.string ⟨#[]⟩) (.int .u8 (z.k : Int)) (.int .i64 z.n) (.int .i64 0) (.bool is) (.int .i64 0)
      refine bodyPost_ret (results_cell_row rfl _ _ (w.heap.size + 1) 39 _ (0, 0) _ rfl HB9 Try.underlying39 rfl (by kernel_rfl)) rfl ?_
      exact ⟨rfl, HI.out.fin HQ.out (off9 _ _ _ _ _ _ _ _ _ _ _)⟩
set_option maxRecDepth 20000 in
set_option maxHeartbeats 4000000 in
theorem does_set (hQ : Stays Q w) (hv : OpV w o A c R d) (hf : Fits o) (hk : o.kind = 3) {is : Bool}
    (hcall : ∀ w1 A1 c1, Below w.heap.size w w1 → WRow (w.heap.size + 3) w1 A1 o.o.ws.length c1 o.o.ws → (∀ p : Addr, A1 = some p → p.block < w1.heap.size) → Calls Try.prog 40 #[hp, .int .i64 o.k, .int .i64 o.i, .agg #[.int .u8 (o.w.k : Int), .int .i64 o.w.n]] w1 fun fn w' => fn = .returned (.bool is) ∧ Q w1.heap.size w' ∧ Keep (YD w w1.heap.size) w1 w') :
    Calls Try.prog 16 #[hp, .agg #[.int .i64 o.kind, .int .i64 o.k, .int .i64 o.i, .int .u8 (o.o.k : Int), .int .i64 o.o.tag, .slice A o.o.ws.length c, .string (str o.o.t), .int .u8 (o.w.k : Int), .int .i64 o.w.n, .slice R o.roots.length d]] w fun fn w' => fn = .returned (.agg #[.int .u8 0, .int .i64 0, .slice none 0 0, .string ⟨#[]⟩, .int .u8 0, .int .i64 0, .int .i64 0, .bool is, .int .i64 0]) ∧ ∃ b, Q b w' := by
  obtain ⟨kind, k, i, ⟨ok, tag, ws, t⟩, ⟨wk, wn⟩, roots⟩ := o
  obtain ⟨n, hn⟩ : ∃ n, ws.length = n := ⟨_, rfl⟩
  obtain ⟨m, hm⟩ : ∃ m, roots.length = m := ⟨_, rfl⟩
  have hk : kind = 3 := hk
  subst hk
  have hl : n ≤ 16384 := by rw [← hn]; exact hf.1
  have HCP := copyobj_any ⟨ok, tag, ws, t⟩ A c (wD w #[.int .i64 3, .int .i64 k, .int .i64 i, .int .u8 (ok : Int), .int .i64 tag, .slice A n c, .string (str t), .int .u8 (wk : Int), .int .i64 wn, .slice R m d]) (by have := hf.1; dsimp only at this ⊢; omega) (hv.words.below (wD_below _ _))
  have hz := Dz.new w #[.int .i64 3, .int .i64 k, .int .i64 i, .int .u8 (ok : Int), .int .i64 tag, .slice A n c, .string (str t), .int .u8 (wk : Int), .int .i64 wn, .slice R m d]
  dsimp only at hcall HCP hz ⊢
  rw [hn] at hcall HCP
  rw [hn, hm]
  have HC := Lib.hid (And.intro hcall (And.intro hQ (And.intro hn hz)))
  replace HCP := Lib.hid HCP
  clear hcall hQ hn hm hz hv hf
  go_enter Try.func16, Try.ntmps16
  go_wp2_with fail
  refine HCP.out.mono ?_
  rintro e wc ⟨v, A1, c1, rfl, hob, hb⟩
  obtain ⟨rfl, hrow⟩ := hob
  dsimp only at hrow ⊢
  rw [HC.out.2.2.1] at hrow ⊢
  rw [wD_size] at hrow
  obtain ⟨w1, hw1⟩ : ∃ w1, wc.alloc (.cells #[.int .u8 (ok : Int), .int .i64 tag, .slice A1 n c1, .string (str t)] 35) = w1 := ⟨_, rfl⟩
  have hsz := hb.size
  rw [wD_size] at hsz
  have hp1 := Dp.new (o := ⟨ok, tag, ws, t⟩) (HC.out.2.2.2.below hb) hsz (hrow.mono (by omega))
  dsimp only at hp1
  rw [hw1] at hp1
  have hs1 : w1.heap.size = wc.heap.size + 1 := by rw [← hw1]; simp
  have hbw : Below wc.heap.size wc w1 := by rw [← hw1]; exact (Below.refl _ _).alloc (Nat.le_refl _) _
  have hrow1 : WRow (w.heap.size + 3) w1 A1 n c1 ws := (hrow.mono (B' := w.heap.size + 3) (by omega)).below hbw
  have hb1 : Below w.heap.size w w1 := (wD_below w _).trans ((hb.mono (by rw [wD_size]; omega)).trans (by rw [← hw1]; exact (Below.refl _ _).alloc (by omega) _))
  have H1 := Lib.hid (HC.out.1 w1 A1 c1 hb1 hrow1 (fun p e => (hrow1.blk p e).2.2.2))
  rw [hs1] at H1
  have c0 := hp1.dz.op.cell 0
  have c1' := hp1.dz.op.cell 1
  have c2 := hp1.dz.op.cell 2
  have c7 := hp1.dz.op.cell 7
  have c8 := hp1.dz.op.cell 8
  have i0 := hp1.i.cell 0
  have i1 := hp1.i.cell 1
  have i2 := hp1.i.cell 2
  have i3 := hp1.i.cell 3
  simp only [List.getElem?_toArray, List.getElem?_cons_zero, List.getElem?_cons_succ] at c0 c1' c2 c7 c8 i0 i1 i2 i3
  have HP := Lib.hid hp1
  clear hp1 hs1 hb1 hb hbw hrow1 hsz hrow HCP
  go_wp2_with fail
  refine H1.out.mono ?_
  rintro e w2 ⟨rfl, hq, hkp⟩
  have hp2 := HP.out.keep hkp
  have x4 := hp2.dz.x.cell 4
  have x5 := hp2.dz.x.cell 5
  have x6 := hp2.dz.x.cell 6
  have x7 := hp2.dz.x.cell 7
  have x8 := hp2.dz.x.cell 8
  have xf := hp2.dz.x.frozen
  have j2 := hp2.i.cell 2
  simp only [told0, List.getElem?_toArray, List.getElem?_cons_zero, List.getElem?_cons_succ] at x4 x5 x6 x7 x8 j2
  have HF := Lib.hid (And.intro hq hp2)
  clear hq hp2 hkp H1 HP c0 c1' c2 c7 c8 i0 i1 i2 i3
  go_wp2_with fail
  obtain ⟨w3, hw3⟩ : ∃ w3, (w2.setCell ⟨w.heap.size + 1 + 1, 7, none⟩ (.bool is)) = w3 := ⟨_, rfl⟩
  have hd0 : Dl Q w w3 #[.int .u8 0, .int .i64 0, .slice none 0 0, .string ⟨#[]⟩, .int .u8 0, .int .i64 0, .int .i64 0, .bool is, .int .i64 0] ⟨ok, tag, ws, t⟩ n A1 c1 wc.heap.size (wc.heap.size + 1) := by
    rw [← hw3]
    exact Dl.start HC.out.2.1 HF.out.2 HF.out.1 (Off.setc _ _ _ _) (HF.out.2.dz.x.set_ 7 (.bool is))
  rw [hw3]
  have HD0 := Lib.hid hd0
  have HQ := Lib.hid HC.out.2.1
  clear hd0 hw3 HF HC x4 x5 x6 x7 x8 xf j2
  go_loopw [11] (fun iv wr => ∃ i : Nat, i ≤ n ∧ iv = .int .i64 (i : Int) ∧ Hid (Dl Q w wr #[.int .u8 0, .int .i64 0, .slice none 0 0, .string ⟨#[]⟩, .int .u8 0, .int .i64 0, .int .i64 0, .bool is, .int .i64 0] ⟨ok, tag, ws, t⟩ n A1 c1 wc.heap.size (wc.heap.size + 1))) (fun iv _ => n - (intOf iv).toNat)
  case atStart => exact ⟨0, Nat.zero_le _, rfl, HD0⟩
  case round =>
    clear HD0
    obtain ⟨r, hr, rfl, hI⟩ := hrel
    by_cases hlt : r < n
    · have hd : decide ((r : Int) < (n : Int)) = true := by simpa using hlt
      obtain ⟨ws2, hrow⟩ := hI.out.row
      obtain ⟨p, x, rfl, _, _, hpl, _, p0, p1, pf⟩ := hrow.at_ hlt
      have j2 := hI.out.i.cell 2
      have j2l := hI.out.i.lt
      simp only [List.getElem?_toArray, List.getElem?_cons_zero, List.getElem?_cons_succ] at j2
      clear hrow
      go_wp2_with fail
      go_region_with (first
        | (go_at_call 41; refine (number_any 77 _).mono ?_; rintro e v2 ⟨rfl, hb2⟩
           have hb2 : Below wr.heap.size wr v2 := Below.trans (⟨rfl, rfl, rfl, Nat.le_refl _, fun _ _ => rfl⟩ : Below wr.heap.size wr wr.drew) hb2
           have j2 := (hb2.cell (p := ⟨wc.heap.size, 2, none⟩) j2l).trans j2
           have p0 := (hb2.cell (p := ⟨p, r * 2, none⟩) hpl).trans p0
           have p1 := (hb2.cell (p := ⟨p, r * 2 + 1, none⟩) hpl).trans p1
           have pf : ∀ j, v2.frozen? ⟨p, j, none⟩ = false := fun j => (World.frozen?_of_block (a := ⟨p, j, none⟩) (hb2.block p hpl)).trans (pf j)
           have HI2 := Lib.hid ((hI.out.below HQ.out hb2).step HQ.out r ⟨1, 77⟩ ⟨by show 1 < 256; omega, by show (-9223372036854775808 : Int) ≤ 77; omega, by show (77 : Int) < 9223372036854775808; omega⟩)
           clear hb2))
      all_goals
        go_wp2_with fail
        go_roundw
        case rel => exact ⟨r + 1, by omega, by go_num, HI2⟩
        case measure => simp [intOf]; omega
    · obtain rfl : n = r := by omega
      have hd : decide ((n : Int) < (n : Int)) = false := by simp
      have j2 := hI.out.i.cell 2
      have x0 := hI.out.x.cell 0
      have x1 := hI.out.x.cell 1
      have x2 := hI.out.x.cell 2
      have x3 := hI.out.x.cell 3
      have x4 := hI.out.x.cell 4
      have x5 := hI.out.x.cell 5
      have x6 := hI.out.x.cell 6
      have x7 := hI.out.x.cell 7
      have x8 := hI.out.x.cell 8
      have y0 := hI.out.r.cell 0
      have y1 := hI.out.r.cell 1
      have y2 := hI.out.r.cell 2
      have y3 := hI.out.r.cell 3
      have y4 := hI.out.r.cell 4
      have y5 := hI.out.r.cell 5
      have y6 := hI.out.r.cell 6
      have y7 := hI.out.r.cell 7
      have y8 := hI.out.r.cell 8
      have yf := hI.out.r.frozen
      simp only [told0, List.getElem?_toArray, List.getElem?_cons_zero, List.getElem?_cons_succ] at j2 x0 x1 x2 x3 x4 x5 x6 x7 x8 y0 y1 y2 y3 y4 y5 y6 y7 y8
      have HI := Lib.hid hI.out
      clear hI
      go_wp2_with fail
      have HB9 := HI.out.r.set9 (.int .u8 0) (.int .i64 0) (.slice none 0 0) (.string ⟨#[]⟩) (.int .u8 0) (.int .i64 0) (.int .i64 0) (.bool is) (.int .i64 0)
      refine bodyPost_ret (results_cell_row rfl _ _ (w.heap.size + 1) 39 _ (0, 0) _ rfl HB9 Try.underlying39 rfl (by kernel_rfl)) rfl ?_
      exact ⟨rfl, HI.out.fin HQ.out (off9 _ _ _ _ _ _ _ _ _ _ _)⟩
set_option maxRecDepth 20000 in
set_option maxHeartbeats 4000000 in
theorem does_tie (hQ : Stays Q w) (hv : OpV w o A c R d) (hf : Fits o) (hk : o.kind = 4) {ee : Nat}
    (hcall : ∀ w1 A1 c1, Below w.heap.size w w1 → WRow (w.heap.size + 3) w1 A1 o.o.ws.length c1 o.o.ws → (∀ p : Addr, A1 = some p → p.block < w1.heap.size) → Calls Try.prog 43 #[hp, .int .i64 o.k, .int .i64 o.i] w1 fun fn w' => fn = .returned (.int .i64 (ee : Int)) ∧ Q w1.heap.size w' ∧ Keep (YD w w1.heap.size) w1 w') :
    Calls Try.prog 16 #[hp, .agg #[.int .i64 o.kind, .int .i64 o.k, .int .i64 o.i, .int .u8 (o.o.k : Int), .int .i64 o.o.tag, .slice A o.o.ws.length c, .string (str o.o.t), .int .u8 (o.w.k : Int), .int .i64 o.w.n, .slice R o.roots.length d]] w fun fn w' => fn = .returned (.agg #[.int .u8 0, .int .i64 0, .slice none 0 0, .string ⟨#[]⟩, .int .u8 0, .int .i64 0, .int .i64 0, .bool false, .int .i64 (ee : Int)]) ∧ ∃ b, Q b w' := by
  obtain ⟨kind, k, i, ⟨ok, tag, ws, t⟩, ⟨wk, wn⟩, roots⟩ := o
  obtain ⟨n, hn⟩ : ∃ n, ws.length = n := ⟨_, rfl⟩
  obtain ⟨m, hm⟩ : ∃ m, roots.length = m := ⟨_, rfl⟩
  have hk : kind = 4 := hk
  subst hk
  have hl : n ≤ 16384 := by rw [← hn]; exact hf.1
  have HCP := copyobj_any ⟨ok, tag, ws, t⟩ A c (wD w #[.int .i64 4, .int .i64 k, .int .i64 i, .int .u8 (ok : Int), .int .i64 tag, .slice A n c, .string (str t), .int .u8 (wk : Int), .int .i64 wn, .slice R m d]) (by have := hf.1; dsimp only at this ⊢; omega) (hv.words.below (wD_below _ _))
  have hz := Dz.new w #[.int .i64 4, .int .i64 k, .int .i64 i, .int .u8 (ok : Int), .int .i64 tag, .slice A n c, .string (str t), .int .u8 (wk : Int), .int .i64 wn, .slice R m d]
  dsimp only at hcall HCP hz ⊢
  rw [hn] at hcall HCP
  rw [hn, hm]
  have HC := Lib.hid (And.intro hcall (And.intro hQ (And.intro hn hz)))
  replace HCP := Lib.hid HCP
  clear hcall hQ hn hm hz hv hf
  go_enter Try.func16, Try.ntmps16
  go_wp2_with fail
  refine HCP.out.mono ?_
  rintro e wc ⟨v, A1, c1, rfl, hob, hb⟩
  obtain ⟨rfl, hrow⟩ := hob
  dsimp only at hrow ⊢
  rw [HC.out.2.2.1] at hrow ⊢
  rw [wD_size] at hrow
  obtain ⟨w1, hw1⟩ : ∃ w1, wc.alloc (.cells #[.int .u8 (ok : Int), .int .i64 tag, .slice A1 n c1, .string (str t)] 35) = w1 := ⟨_, rfl⟩
  have hsz := hb.size
  rw [wD_size] at hsz
  have hp1 := Dp.new (o := ⟨ok, tag, ws, t⟩) (HC.out.2.2.2.below hb) hsz (hrow.mono (by omega))
  dsimp only at hp1
  rw [hw1] at hp1
  have hs1 : w1.heap.size = wc.heap.size + 1 := by rw [← hw1]; simp
  have hbw : Below wc.heap.size wc w1 := by rw [← hw1]; exact (Below.refl _ _).alloc (Nat.le_refl _) _
  have hrow1 : WRow (w.heap.size + 3) w1 A1 n c1 ws := (hrow.mono (B' := w.heap.size + 3) (by omega)).below hbw
  have hb1 : Below w.heap.size w w1 := (wD_below w _).trans ((hb.mono (by rw [wD_size]; omega)).trans (by rw [← hw1]; exact (Below.refl _ _).alloc (by omega) _))
  have H1 := Lib.hid (HC.out.1 w1 A1 c1 hb1 hrow1 (fun p e => (hrow1.blk p e).2.2.2))
  rw [hs1] at H1
  have c0 := hp1.dz.op.cell 0
  have c1' := hp1.dz.op.cell 1
  have c2 := hp1.dz.op.cell 2
  have c7 := hp1.dz.op.cell 7
  have c8 := hp1.dz.op.cell 8
  have i0 := hp1.i.cell 0
  have i1 := hp1.i.cell 1
  have i2 := hp1.i.cell 2
  have i3 := hp1.i.cell 3
  simp only [List.getElem?_toArray, List.getElem?_cons_zero, List.getElem?_cons_succ] at c0 c1' c2 c7 c8 i0 i1 i2 i3
  have HP := Lib.hid hp1
  clear hp1 hs1 hb1 hb hbw hrow1 hsz hrow HCP
  go_wp2_with fail
  refine H1.out.mono ?_
  rintro e w2 ⟨rfl, hq, hkp⟩
  have hp2 := HP.out.keep hkp
  have x4 := hp2.dz.x.cell 4
  have x5 := hp2.dz.x.cell 5
  have x6 := hp2.dz.x.cell 6
  have x7 := hp2.dz.x.cell 7
  have x8 := hp2.dz.x.cell 8
  have xf := hp2.dz.x.frozen
  have j2 := hp2.i.cell 2
  simp only [told0, List.getElem?_toArray, List.getElem?_cons_zero, List.getElem?_cons_succ] at x4 x5 x6 x7 x8 j2
  have HF := Lib.hid (And.intro hq hp2)
  clear hq hp2 hkp H1 HP c0 c1' c2 c7 c8 i0 i1 i2 i3
  go_wp2_with fail
  obtain ⟨w3, hw3⟩ : ∃ w3, (w2.setCell ⟨w.heap.size + 1 + 1, 8, none⟩ (.int .i64 (ee : Int))) = w3 := ⟨_, rfl⟩
  have hd0 : Dl Q w w3 #[.int .u8 0, .int .i64 0, .slice none 0 0, .string ⟨#[]⟩, .int .u8 0, .int .i64 0, .int .i64 0, .bool false, .int .i64 (ee : Int)] ⟨ok, tag, ws, t⟩ n A1 c1 wc.heap.size (wc.heap.size + 1) := by
    rw [← hw3]
    exact Dl.start HC.out.2.1 HF.out.2 HF.out.1 (Off.setc _ _ _ _) (HF.out.2.dz.x.set_ 8 (.int .i64 (ee : Int)))
  rw [hw3]
  have HD0 := Lib.hid hd0
  have HQ := Lib.hid HC.out.2.1
  clear hd0 hw3 HF HC x4 x5 x6 x7 x8 xf j2
  go_loopw [11] (fun iv wr => ∃ i : Nat, i ≤ n ∧ iv = .int .i64 (i : Int) ∧ Hid (Dl Q w wr #[.int .u8 0, .int .i64 0, .slice none 0 0, .string ⟨#[]⟩, .int .u8 0, .int .i64 0, .int .i64 0, .bool false, .int .i64 (ee : Int)] ⟨ok, tag, ws, t⟩ n A1 c1 wc.heap.size (wc.heap.size + 1))) (fun iv _ => n - (intOf iv).toNat)
  case atStart => exact ⟨0, Nat.zero_le _, rfl, HD0⟩
  case round =>
    clear HD0
    obtain ⟨r, hr, rfl, hI⟩ := hrel
    by_cases hlt : r < n
    · have hd : decide ((r : Int) < (n : Int)) = true := by simpa using hlt
      obtain ⟨ws2, hrow⟩ := hI.out.row
      obtain ⟨p, x, rfl, _, _, hpl, _, p0, p1, pf⟩ := hrow.at_ hlt
      have j2 := hI.out.i.cell 2
      have j2l := hI.out.i.lt
      simp only [List.getElem?_toArray, List.getElem?_cons_zero, List.getElem?_cons_succ] at j2
      clear hrow
      go_wp2_with fail
      go_region_with (first
        | (go_at_call 41; refine (number_any 77 _).mono ?_; rintro e v2 ⟨rfl, hb2⟩
           have hb2 : Below wr.heap.size wr v2 := Below.trans (⟨rfl, rfl, rfl, Nat.le_refl _, fun _ _ => rfl⟩ : Below wr.heap.size wr wr.drew) hb2
           have j2 := (hb2.cell (p := ⟨wc.heap.size, 2, none⟩) j2l).trans j2
           have p0 := (hb2.cell (p := ⟨p, r * 2, none⟩) hpl).trans p0
           have p1 := (hb2.cell (p := ⟨p, r * 2 + 1, none⟩) hpl).trans p1
           have pf : ∀ j, v2.frozen? ⟨p, j, none⟩ = false := fun j => (World.frozen?_of_block (a := ⟨p, j, none⟩) (hb2.block p hpl)).trans (pf j)
           have HI2 := Lib.hid ((hI.out.below HQ.out hb2).step HQ.out r ⟨1, 77⟩ ⟨by show 1 < 256; omega, by show (-9223372036854775808 : Int) ≤ 77; omega, by show (77 : Int) < 9223372036854775808; omega⟩)
           clear hb2))
      all_goals
        go_wp2_with fail
        go_roundw
        case rel => exact ⟨r + 1, by omega, by go_num, HI2⟩
        case measure => simp [intOf]; omega
    · obtain rfl : n = r := by omega
      have hd : decide ((n : Int) < (n : Int)) = false := by simp
      have j2 := hI.out.i.cell 2
      have x0 := hI.out.x.cell 0
      have x1 := hI.out.x.cell 1
      have x2 := hI.out.x.cell 2
      have x3 := hI.out.x.cell 3
      have x4 := hI.out.x.cell 4
      have x5 := hI.out.x.cell 5
      have x6 := hI.out.x.cell 6
      have x7 := hI.out.x.cell 7
      have x8 := hI.out.x.cell 8
      have y0 := hI.out.r.cell 0
      have y1 := hI.out.r.cell 1
      have y2 := hI.out.r.cell 2
      have y3 := hI.out.r.cell 3
      have y4 := hI.out.r.cell 4
      have y5 := hI.out.r.cell 5
      have y6 := hI.out.r.cell 6
      have y7 := hI.out.r.cell 7
      have y8 := hI.out.r.cell 8
      have yf := hI.out.r.frozen
      simp only [told0, List.getElem?_toArray, List.getElem?_cons_zero, List.getElem?_cons_succ] at j2 x0 x1 x2 x3 x4 x5 x6 x7 x8 y0 y1 y2 y3 y4 y5 y6 y7 y8
      have HI := Lib.hid hI.out
      clear hI
      go_wp2_with fail
      have HB9 := HI.out.r.set9 (.int .u8 0) (.int .i64 0) (.slice none 0 0) (.string ⟨#[]⟩) (.int .u8 0) (.int .i64 0) (.int .i64 0) (.bool false) (.int .i64 (ee : Int))
      refine bodyPost_ret (results_cell_row rfl _ _ (w.heap.size + 1) 39 _ (0, 0) _ rfl HB9 Try.underlying39 rfl (by kernel_rfl)) rfl ?_
      exact ⟨rfl, HI.out.fin HQ.out (off9 _ _ _ _ _ _ _ _ _ _ _)⟩
set_option maxRecDepth 20000 in
set_option maxHeartbeats 4000000 in
theorem does_untie (hQ : Stays Q w) (hv : OpV w o A c R d) (hf : Fits o) (hk : o.kind = 5) {is : Bool}
    (hcall : ∀ w1 A1 c1, Below w.heap.size w w1 → WRow (w.heap.size + 3) w1 A1 o.o.ws.length c1 o.o.ws → (∀ p : Addr, A1 = some p → p.block < w1.heap.size) → Calls Try.prog 45 #[hp, .int .i64 o.k] w1 fun fn w' => fn = .returned (.bool is) ∧ Q w1.heap.size w' ∧ Keep (YD w w1.heap.size) w1 w') :
    Calls Try.prog 16 #[hp, .agg #[.int .i64 o.kind, .int .i64 o.k, .int .i64 o.i, .int .u8 (o.o.k : Int), .int .i64 o.o.tag, .slice A o.o.ws.length c, .string (str o.o.t), .int .u8 (o.w.k : Int), .int .i64 o.w.n, .slice R o.roots.length d]] w fun fn w' => fn = .returned (.agg #[.int .u8 0, .int .i64 0, .slice none 0 0, .string ⟨#[]⟩, .int .u8 0, .int .i64 0, .int .i64 0, .bool is, .int .i64 0]) ∧ ∃ b, Q b w' := by
  obtain ⟨kind, k, i, ⟨ok, tag, ws, t⟩, ⟨wk, wn⟩, roots⟩ := o
  obtain ⟨n, hn⟩ : ∃ n, ws.length = n := ⟨_, rfl⟩
  obtain ⟨m, hm⟩ : ∃ m, roots.length = m := ⟨_, rfl⟩
  have hk : kind = 5 := hk
  subst hk
  have hl : n ≤ 16384 := by rw [← hn]; exact hf.1
  have HCP := copyobj_any ⟨ok, tag, ws, t⟩ A c (wD w #[.int .i64 5, .int .i64 k, .int .i64 i, .int .u8 (ok : Int), .int .i64 tag, .slice A n c, .string (str t), .int .u8 (wk : Int), .int .i64 wn, .slice R m d]) (by have := hf.1; dsimp only at this ⊢; omega) (hv.words.below (wD_below _ _))
  have hz := Dz.new w #[.int .i64 5, .int .i64 k, .int .i64 i, .int .u8 (ok : Int), .int .i64 tag, .slice A n c, .string (str t), .int .u8 (wk : Int), .int .i64 wn, .slice R m d]
  dsimp only at hcall HCP hz ⊢
  rw [hn] at hcall HCP
  rw [hn, hm]
  have HC := Lib.hid (And.intro hcall (And.intro hQ (And.intro hn hz)))
  replace HCP := Lib.hid HCP
  clear hcall hQ hn hm hz hv hf
  go_enter Try.func16, Try.ntmps16
  go_wp2_with fail
  refine HCP.out.mono ?_
  rintro e wc ⟨v, A1, c1, rfl, hob, hb⟩
  obtain ⟨rfl, hrow⟩ := hob
  dsimp only at hrow ⊢
  rw [HC.out.2.2.1] at hrow ⊢
  rw [wD_size] at hrow
  obtain ⟨w1, hw1⟩ : ∃ w1, wc.alloc (.cells #[.int .u8 (ok : Int), .int .i64 tag, .slice A1 n c1, .string (str t)] 35) = w1 := ⟨_, rfl⟩
  have hsz := hb.size
  rw [wD_size] at hsz
  have hp1 := Dp.new (o := ⟨ok, tag, ws, t⟩) (HC.out.2.2.2.below hb) hsz (hrow.mono (by omega))
  dsimp only at hp1
  rw [hw1] at hp1
  have hs1 : w1.heap.size = wc.heap.size + 1 := by rw [← hw1]; simp
  have hbw : Below wc.heap.size wc w1 := by rw [← hw1]; exact (Below.refl _ _).alloc (Nat.le_refl _) _
  have hrow1 : WRow (w.heap.size + 3) w1 A1 n c1 ws := (hrow.mono (B' := w.heap.size + 3) (by omega)).below hbw
  have hb1 : Below w.heap.size w w1 := (wD_below w _).trans ((hb.mono (by rw [wD_size]; omega)).trans (by rw [← hw1]; exact (Below.refl _ _).alloc (by omega) _))
  have H1 := Lib.hid (HC.out.1 w1 A1 c1 hb1 hrow1 (fun p e => (hrow1.blk p e).2.2.2))
  rw [hs1] at H1
  have c0 := hp1.dz.op.cell 0
  have c1' := hp1.dz.op.cell 1
  have c2 := hp1.dz.op.cell 2
  have c7 := hp1.dz.op.cell 7
  have c8 := hp1.dz.op.cell 8
  have i0 := hp1.i.cell 0
  have i1 := hp1.i.cell 1
  have i2 := hp1.i.cell 2
  have i3 := hp1.i.cell 3
  simp only [List.getElem?_toArray, List.getElem?_cons_zero, List.getElem?_cons_succ] at c0 c1' c2 c7 c8 i0 i1 i2 i3
  have HP := Lib.hid hp1
  clear hp1 hs1 hb1 hb hbw hrow1 hsz hrow HCP
  go_wp2_with fail
  refine H1.out.mono ?_
  rintro e w2 ⟨rfl, hq, hkp⟩
  have hp2 := HP.out.keep hkp
  have x4 := hp2.dz.x.cell 4
  have x5 := hp2.dz.x.cell 5
  have x6 := hp2.dz.x.cell 6
  have x7 := hp2.dz.x.cell 7
  have x8 := hp2.dz.x.cell 8
  have xf := hp2.dz.x.frozen
  have j2 := hp2.i.cell 2
  simp only [told0, List.getElem?_toArray, List.getElem?_cons_zero, List.getElem?_cons_succ] at x4 x5 x6 x7 x8 j2
  have HF := Lib.hid (And.intro hq hp2)
  clear hq hp2 hkp H1 HP c0 c1' c2 c7 c8 i0 i1 i2 i3
  go_wp2_with fail
  obtain ⟨w3, hw3⟩ : ∃ w3, (w2.setCell ⟨w.heap.size + 1 + 1, 7, none⟩ (.bool is)) = w3 := ⟨_, rfl⟩
  have hd0 : Dl Q w w3 #[.int .u8 0, .int .i64 0, .slice none 0 0, .string ⟨#[]⟩, .int .u8 0, .int .i64 0, .int .i64 0, .bool is, .int .i64 0] ⟨ok, tag, ws, t⟩ n A1 c1 wc.heap.size (wc.heap.size + 1) := by
    rw [← hw3]
    exact Dl.start HC.out.2.1 HF.out.2 HF.out.1 (Off.setc _ _ _ _) (HF.out.2.dz.x.set_ 7 (.bool is))
  rw [hw3]
  have HD0 := Lib.hid hd0
  have HQ := Lib.hid HC.out.2.1
  clear hd0 hw3 HF HC x4 x5 x6 x7 x8 xf j2
  go_loopw [11] (fun iv wr => ∃ i : Nat, i ≤ n ∧ iv = .int .i64 (i : Int) ∧ Hid (Dl Q w wr #[.int .u8 0, .int .i64 0, .slice none 0 0, .string ⟨#[]⟩, .int .u8 0, .int .i64 0, .int .i64 0, .bool is, .int .i64 0] ⟨ok, tag, ws, t⟩ n A1 c1 wc.heap.size (wc.heap.size + 1))) (fun iv _ => n - (intOf iv).toNat)
  case atStart => exact ⟨0, Nat.zero_le _, rfl, HD0⟩
  case round =>
    clear HD0
    obtain ⟨r, hr, rfl, hI⟩ := hrel
    by_cases hlt : r < n
    · have hd : decide ((r : Int) < (n : Int)) = true := by simpa using hlt
      obtain ⟨ws2, hrow⟩ := hI.out.row
      obtain ⟨p, x, rfl, _, _, hpl, _, p0, p1, pf⟩ := hrow.at_ hlt
      have j2 := hI.out.i.cell 2
      have j2l := hI.out.i.lt
      simp only [List.getElem?_toArray, List.getElem?_cons_zero, List.getElem?_cons_succ] at j2
      clear hrow
      go_wp2_with fail
      go_region_with (first
        | (go_at_call 41; refine (number_any 77 _).mono ?_; rintro e v2 ⟨rfl, hb2⟩
           have hb2 : Below wr.heap.size wr v2 := Below.trans (⟨rfl, rfl, rfl, Nat.le_refl _, fun _ _ => rfl⟩ : Below wr.heap.size wr wr.drew) hb2
           have j2 := (hb2.cell (p := ⟨wc.heap.size, 2, none⟩) j2l).trans j2
           have p0 := (hb2.cell (p := ⟨p, r * 2, none⟩) hpl).trans p0
           have p1 := (hb2.cell (p := ⟨p, r * 2 + 1, none⟩) hpl).trans p1
           have pf : ∀ j, v2.frozen? ⟨p, j, none⟩ = false := fun j => (World.frozen?_of_block (a := ⟨p, j, none⟩) (hb2.block p hpl)).trans (pf j)
           have HI2 := Lib.hid ((hI.out.below HQ.out hb2).step HQ.out r ⟨1, 77⟩ ⟨by show 1 < 256; omega, by show (-9223372036854775808 : Int) ≤ 77; omega, by show (77 : Int) < 9223372036854775808; omega⟩)
           clear hb2))
      all_goals
        go_wp2_with fail
        go_roundw
        case rel => exact ⟨r + 1, by omega, by go_num, HI2⟩
        case measure => simp [intOf]; omega
    · obtain rfl : n = r := by omega
      have hd : decide ((n : Int) < (n : Int)) = false := by simp
      have j2 := hI.out.i.cell 2
      have x0 := hI.out.x.cell 0
      have x1 := hI.out.x.cell 1
      have x2 := hI.out.x.cell 2
      have x3 := hI.out.x.cell 3
      have x4 := hI.out.x.cell 4
      have x5 := hI.out.x.cell 5
      have x6 := hI.out.x.cell 6
      have x7 := hI.out.x.cell 7
      have x8 := hI.out.x.cell 8
      have y0 := hI.out.r.cell 0
      have y1 := hI.out.r.cell 1
      have y2 := hI.out.r.cell 2
      have y3 := hI.out.r.cell 3
      have y4 := hI.out.r.cell 4
      have y5 := hI.out.r.cell 5
      have y6 := hI.out.r.cell 6
      have y7 := hI.out.r.cell 7
      have y8 := hI.out.r.cell 8
      have yf := hI.out.r.frozen
      simp only [told0, List.getElem?_toArray, List.getElem?_cons_zero, List.getElem?_cons_succ] at j2 x0 x1 x2 x3 x4 x5 x6 x7 x8 y0 y1 y2 y3 y4 y5 y6 y7 y8
      have HI := Lib.hid hI.out
      clear hI
      go_wp2_with fail
      have HB9 := HI.out.r.set9 (.int .u8 0) (.int .i64 0) (.slice none 0 0) (.string ⟨#[]⟩) (.int .u8 0) (.int .i64 0) (.int .i64 0) (.bool is) (.int .i64 0)
      refine bodyPost_ret (results_cell_row rfl _ _ (w.heap.size + 1) 39 _ (0, 0) _ rfl HB9 Try.underlying39 rfl (by kernel_rfl)) rfl ?_
      exact ⟨rfl, HI.out.fin HQ.out (off9 _ _ _ _ _ _ _ _ _ _ _)⟩
end
end Go.Proofs.Ytclkkfffecmjnaa
