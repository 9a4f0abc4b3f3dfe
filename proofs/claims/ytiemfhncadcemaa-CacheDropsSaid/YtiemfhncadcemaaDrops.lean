/- CacheDrops. -/
import Derived.Test.YtiemfhncadcemaaDa
namespace Go.Proofs.Ytiemfhncadcemaa
open Go.RowKit Dsk
/-- Just the frame of sector 5, if any, without pins. -/
structure Five (D : DS) (L : List Fr) (f : List UInt8) : Prop where
  all : ∀ x ∈ L, x.s = 5 ∧ x.pins = 0
  len : L.length ≤ 1
  read : readS D 5 = f
section
variable {t : Nat} {D D' : DS} {L L' : List Fr} {y : Fr} {f b : List UInt8}
theorem Five.nostuck (h : Five D L f) {s : Nat} : ¬ Stuck 3 L s := fun hs => by have := hs.1.1; have := h.len; omega
theorem Five.wrote (h : Five D L f) (hw : Wrote 3 D L 5 b D' L' y) : Five D' L' f ∧ y ∈ L' ∧ y.s = 5 ∧ y.pins = 0 ∧ y.b = b ∧ L' = [y] := by
  rcases hw with ⟨x, hx, e, ey, rfl, rfl⟩ | ⟨hno, L1, hr, ey, rfl⟩
  · have e1 : y.s = 5 := by rw [ey]; exact e
    have e2 : y.pins = 0 := by rw [ey]; exact (h.all x hx).2
    have e3 : updL y L = [y] := by
      match L, hx, h.len with
      | [z], hx, _ =>
        rw [List.mem_singleton.1 hx] at e
        unfold updL
        simp [e, e1]
    rw [e3]
    exact ⟨⟨fun z hz => by rw [List.mem_singleton.1 hz]; exact ⟨e1, e2⟩, Nat.le_refl _, h.read⟩, by simp, e1, e2, by rw [ey], rfl⟩
  · rcases hr with ⟨_, rfl, rfl⟩ | ⟨h2, _⟩
    · have e0 : L1 = [] := by
        match L1, h.all, hno with
        | [], _, _ => rfl
        | z :: _, ha, hno => exact absurd (ha z (by simp)).1 (hno z (by simp))
      subst e0
      have e1 : y.s = 5 := by rw [ey]
      have e2 : y.pins = 0 := by rw [ey]
      exact ⟨⟨fun z hz => by rw [List.mem_singleton.1 hz]; exact ⟨e1, e2⟩, Nat.le_refl _, h.read⟩, by simp, e1, e2, by rw [ey], rfl⟩
    · have := h.len; omega
theorem Five.del (h : Five D L f) : Five D (delL 5 L) f ∧ delL 5 L = [] := by
  have e : delL 5 L = [] := by
    match hh : delL 5 L with
    | [] => rfl
    | z :: _ =>
      have hz : z ∈ delL 5 L := by rw [hh]; simp
      obtain ⟨h1, h2⟩ := delL_mem.1 hz
      exact absurd (h.all z h1).1 h2
  rw [e]
  exact ⟨⟨fun z hz => (by cases hz), Nat.zero_le _, h.read⟩, rfl⟩
theorem Five.brought (h : Five D [] f) (hb : Brought 3 D [] 5 D' L' y) : (∀ x ∈ L', x.s = 5) ∧ y.b = f := by
  rcases hb with ⟨x, hx, _⟩ | ⟨_, L1, hr, ey, rfl⟩
  · cases hx
  · rcases hr with ⟨_, rfl, rfl⟩ | ⟨h2, _⟩
    · exact ⟨fun z hz => by rw [List.mem_singleton.1 (show z ∈ [y] from hz), ey], by rw [ey]; exact h.read⟩
    · simp at h2
end
section
variable {w0 w w' : World} {X : Nat → Prop} {g dg t nn most s : Nat} {D : DS} {L : List Fr}
/-- A twin of bytes is written. -/
theorem CS.writeT (h : CS w0 w X g dg nn most t D L) {A : Option Addr} {len c : Nat} {bs : List UInt8} (hb : Below w.heap.size w w') (ho : Own8 w' w.heap.size A len c bs) (hs : s < nn) (ht : t < 900000) (h256 : len ≤ 256) :
    Calls Try.prog 24 #[.pointer (some ⟨g, 0, none⟩), .int .i64 (s : Int), .slice A len c] w' fun e w2 =>
      (e = .returned (.int .i64 3) ∧ Stuck most L s ∧ CS w0 w2 X g dg nn most t D L ∧ Keep X w w2) ∨
      ∃ D' L' y, e = .returned (.int .i64 0) ∧ Wrote most D L s (filled bs 256) D' L' y ∧ CS w0 w2 X g dg nn most (t + 1) D' L' ∧ Keep X w w2 := by
  have h1 := h.more hb (fun k => X k ∨ (w.heap.size ≤ k ∧ k < w'.heap.size)) (fun k hk => hk)
  have hk : ∀ w2, Keep (fun k => X k ∨ (w.heap.size ≤ k ∧ k < w'.heap.size)) w' w2 → Keep X w w2 := fun w2 k3 => ⟨Nat.le_trans hb.size k3.size, fun k hk => (k3.at_ k (.inl hk)).trans (hb.block k (h.lt k hk))⟩
  refine (h1.write A len c bs hs ht ho.long h256 ho.bytes (fun p e => .inr (ho.blk p e))).mono ?_
  rintro e w2 (⟨rfl, k1, k2, k3⟩ | ⟨D', L', y, rfl, k1, k2, k3⟩)
  · exact .inl ⟨rfl, k1, k2.less fun k hk => .inl hk, hk w2 k3⟩
  · exact .inr ⟨D', L', y, rfl, k1, k2.less fun k hk => .inl hk, hk w2 k3⟩
theorem Keep.bytes {w w' : World} {X : Nat → Prop} (h : Keep X w w') {A : Option Addr} {bs : List UInt8} (hb : Bytes w A bs) (hA : ∀ p : Addr, A = some p → X p.block) : Bytes w' A bs := hb.same h.size fun p e _ => h.at_ _ (hA p e)
end
set_option maxHeartbeats 1000000 in
theorem drops_long (A B : Option Addr) (la ca lb cb : Nat) (out : Bool) (w : World) (h : 256 < la ∨ 256 < lb) :
    Calls Try.prog 6 #[.slice A la ca, .slice B lb cb, .bool out] w fun e w' => e = .returned (.bool true) ∧ Below w.heap.size w w' := by
  have H1 := Lib.hid (works_any w)
  by_cases h1 : 256 < la
  · have hd : decide ((la : Int) > 256) = true := by simp; omega
    go_enter Try.func6, Try.ntmps6
    go_wp2_with fail
    refine H1.out.mono ?_
    rintro e w1 ⟨rfl, hb⟩
    have HB := Lib.hid hb
    clear hb
    go_wp2_with fail
    go_ret
    exact ⟨rfl, HB.out⟩
  · have hd : decide ((la : Int) > 256) = false := by simp; omega
    have hd2 : decide ((lb : Int) > 256) = true := by simp; omega
    go_enter Try.func6, Try.ntmps6
    go_wp2_with fail
    refine H1.out.mono ?_
    rintro e w1 ⟨rfl, hb⟩
    have HB := Lib.hid hb
    clear hb
    go_wp2_with fail
    go_ret
    exact ⟨rfl, HB.out⟩
set_option maxRecDepth 20000 in
set_option maxHeartbeats 2000000 in
theorem drops_false (A B : Option Addr) (la ca lb cb : Nat) (xs ys : List UInt8) (w : World) (ha : xs.length = la) (hb : ys.length = lb) (hA : Bytes w A xs) (hB : Bytes w B ys) (h1 : la ≤ 256) (h2 : lb ≤ 256) :
    Calls Try.prog 6 #[.slice A la ca, .slice B lb cb, .bool false] w fun e w' => e = .returned (.bool true) ∧ Below w.heap.size w w' := by
  have H1 := Lib.hid (Run.new 16 w w (fun _ => False) (fun k h => h.elim) (Below.refl _ _) ⟨by omega, by omega⟩)
  have HAB := Lib.hid (And.intro ha (And.intro hb (And.intro hA (And.intro hB (And.intro h1 h2)))))
  have hd1 : decide ((la : Int) > 256) = false := by simp; omega
  have hd2 : decide ((lb : Int) > 256) = false := by simp; omega
  clear ha hb hA hB h1 h2
  go_enter Try.func6, Try.ntmps6
  go_wp2_with fail
  refine H1.out.mono ?_
  rintro e w1 ⟨dg, rfl, hr, hb1⟩
  have H2 := Lib.hid (CS.new 16 3 ⟨by omega, by omega⟩ ⟨by omega, by omega⟩ hr)
  clear hr hb1 H1
  go_wp2_with fail
  refine H2.out.mono ?_
  rintro e w2 ⟨g, rfl, _, hc, hb2⟩
  have HC := Lib.hid hc
  have H3 := Lib.hid (twin_any A la ca xs w2 HAB.out.1 (by have := HAB.out.2.2.2.2.1; omega) (HAB.out.2.2.1.below hc.bel))
  clear hc hb2 H2
  go_wp2_with fail
  refine H3.out.mono ?_
  rintro e w3 ⟨A1, c1, rfl, ho, hb⟩
  have H4 := Lib.hid (HC.out.writeT hb ho (s := 5) (by omega) (by omega) HAB.out.2.2.2.2.1)
  have HFV : Hid (Five (newD 16) [] zeros) := Lib.hid ⟨fun x hx => (by cases hx), Nat.zero_le _, Hale.new_read (by omega)⟩
  clear ho hb H3
  go_wp2_with fail
  refine H4.out.mono ?_
  rintro e w4 (⟨rfl, hs, _⟩ | ⟨D1, L1, y1, rfl, hw, hc, _⟩)
  · exact absurd hs HFV.out.nostuck
  obtain ⟨hF, hy, e1, e2, e3, rfl⟩ := HFV.out.wrote hw
  have H5 := Lib.hid (full_any none 0 0 [] w4 rfl (by omega) (Bytes.nil _ _))
  have HC1 := Lib.hid hc
  have HY := Lib.hid (And.intro hF (And.intro e1 (And.intro e2 e3)))
  clear hw hc hF hy e1 e2 e3 H4 HC HFV
  go_wp2_with fail
  refine H5.out.mono ?_
  rintro e w5 ⟨rfl, hB5, hb5⟩
  have HS := Lib.hid (HC1.out.more hb5 (fun k => k = w4.heap.size) (fun k hk => .inr ⟨by omega, by have := hB5.lt; omega⟩))
  have HF := Lib.hid HY.out.1
  have HW : Hid (Bytes w5 (some ⟨w4.heap.size, 0, none⟩) zeros) := Lib.hid (by
    have e : filled [] 256 = zeros := rfl
    rw [← e]; exact Bytes.row hB5)
  obtain ⟨qw, hqw⟩ : ∃ qw, w4.heap.size = qw := ⟨_, rfl⟩
  obtain ⟨fW, hfW⟩ : ∃ fW, fW = zeros := ⟨_, rfl⟩
  rw [← hfW] at HF HW
  have HFL : Hid (fW.length = 256) := Lib.hid (by rw [hfW, zeros_length])
  obtain ⟨L2, hL2⟩ : ∃ L2, [y1] = L2 := ⟨_, rfl⟩
  rw [hL2] at HS HF
  rw [hqw] at HS HW
  simp only [hqw]
  obtain ⟨wS, rfl⟩ : ∃ wS, wS = w5 := ⟨_, rfl⟩
  have H6 := Lib.hid (twin_any B lb cb ys wS HAB.out.2.1 (by have := HAB.out.2.2.2.2.2; omega) (HAB.out.2.2.2.1.below HS.out.bel))
  have HT : Hid (0 + 1 < 1000) := Lib.hid (by omega)
  obtain ⟨tS, htS⟩ : ∃ tS, 0 + 1 = tS := ⟨_, rfl⟩
  rw [htS] at HS HT
  clear hB5 hb5 H5 HC1 HY hqw hfW hL2 htS
  go_wp2_with fail
  refine H6.out.mono ?_
  rintro e w7 ⟨A2, c2, rfl, ho, hb⟩
  have H7 := Lib.hid (HS.out.writeT hb ho (s := 5) (by omega) (by have := HT.out; omega) HAB.out.2.2.2.2.2)
  clear ho hb H6
  go_wp2_with fail
  refine H7.out.mono ?_
  rintro e w8 (⟨rfl, hs, _⟩ | ⟨D3, L3, y3, rfl, hw, hc, hk⟩)
  · exact absurd hs HF.out.nostuck
  obtain ⟨hF, hy, e1, e2, _⟩ := HF.out.wrote hw
  have H8 := hc.drop hy e2
  rw [e1] at H8
  replace H8 := Lib.hid H8
  have HF3 := Lib.hid hF
  have HW8 := Lib.hid (hk.bytes HW.out (fun p e => by cases e; rfl))
  clear hw hc hk hF hy e1 e2 H7 HF HW HS
  go_wp2_with fail
  refine H8.out.mono ?_
  rintro e w9 ⟨rfl, hc, hk⟩
  obtain ⟨hF, e0⟩ := HF3.out.del
  rw [e0] at hF hc
  have H9 := Lib.hid (hc.read (s := 5) (by omega) (by have := HT.out; omega))
  have HF4 := Lib.hid hF
  have HW9 := Lib.hid (hk.bytes HW8.out (fun p e => by cases e; rfl))
  clear hc hk hF e0 H8 HF3 HW8
  go_wp2_with fail
  refine H9.out.mono ?_
  rintro e w10 (⟨rfl, hs, _⟩ | ⟨D5, L5, y5, q5, c5, rfl, hb, hrw, _, hc, hk⟩)
  · exact absurd hs HF4.out.nostuck
  obtain ⟨hall, e5⟩ := HF4.out.brought hb
  rw [e5] at hrw
  have H10 := Lib.hid (samet_any (some ⟨q5, 0, none⟩) (some ⟨qw, 0, none⟩) 256 c5 256 256 fW w10 HFL.out HFL.out hrw.bytes (hk.bytes HW9.out (fun p e => by cases e; rfl)))
  have H11 := Lib.hid (hc.drop_none (i := 6) (by decide) (fun x hx e => by have := hall x hx; omega))
  have H12 := Lib.hid (works_any w10)
  have HB := Lib.hid hc.bel
  clear hb hrw hc hk hall e5 H9 HF4 HW9
  go_wp2_with (first
    | (go_at_call 14; refine H10.out.mono ?_; rintro e w' ⟨rfl, rfl⟩)
    | (go_at_call 22; refine H11.out.mono ?_; rintro e w' ⟨rfl, rfl⟩)
    | fail)
  refine H12.out.mono ?_
  rintro e w11 ⟨rfl, hb⟩
  have HB2 := Lib.hid (HB.out.trans (hb.mono HB.out.size))
  clear hb
  go_wp2_with fail
  go_ret
  exact ⟨rfl, HB2.out⟩
set_option maxRecDepth 20000 in
set_option maxHeartbeats 2000000 in
theorem drops_true (A B : Option Addr) (la ca lb cb : Nat) (xs ys : List UInt8) (w : World) (ha : xs.length = la) (hb : ys.length = lb) (hA : Bytes w A xs) (hB : Bytes w B ys) (h1 : la ≤ 256) (h2 : lb ≤ 256) :
    Calls Try.prog 6 #[.slice A la ca, .slice B lb cb, .bool true] w fun e w' => e = .returned (.bool true) ∧ Below w.heap.size w w' := by
  have H1 := Lib.hid (Run.new 16 w w (fun _ => False) (fun k h => h.elim) (Below.refl _ _) ⟨by omega, by omega⟩)
  have HAB := Lib.hid (And.intro ha (And.intro hb (And.intro hA (And.intro hB (And.intro h1 h2)))))
  have hd1 : decide ((la : Int) > 256) = false := by simp; omega
  have hd2 : decide ((lb : Int) > 256) = false := by simp; omega
  clear ha hb hA hB h1 h2
  go_enter Try.func6, Try.ntmps6
  go_wp2_with fail
  refine H1.out.mono ?_
  rintro e w1 ⟨dg, rfl, hr, hb1⟩
  have H2 := Lib.hid (CS.new 16 3 ⟨by omega, by omega⟩ ⟨by omega, by omega⟩ hr)
  clear hr hb1 H1
  go_wp2_with fail
  refine H2.out.mono ?_
  rintro e w2 ⟨g, rfl, _, hc, hb2⟩
  have HC := Lib.hid hc
  have H3 := Lib.hid (twin_any A la ca xs w2 HAB.out.1 (by have := HAB.out.2.2.2.2.1; omega) (HAB.out.2.2.1.below hc.bel))
  clear hc hb2 H2
  go_wp2_with fail
  refine H3.out.mono ?_
  rintro e w3 ⟨A1, c1, rfl, ho, hb⟩
  have H4 := Lib.hid (HC.out.writeT hb ho (s := 5) (by omega) (by omega) HAB.out.2.2.2.2.1)
  have HFV : Hid (Five (newD 16) [] zeros) := Lib.hid ⟨fun x hx => (by cases hx), Nat.zero_le _, Hale.new_read (by omega)⟩
  clear ho hb H3
  go_wp2_with fail
  refine H4.out.mono ?_
  rintro e w4 (⟨rfl, hs, _⟩ | ⟨D1, L1, y1, rfl, hw, hc, _⟩)
  · exact absurd hs HFV.out.nostuck
  obtain ⟨hF, hy, e1, e2, e3, rfl⟩ := HFV.out.wrote hw
  have H5 := Lib.hid (full_any none 0 0 [] w4 rfl (by omega) (Bytes.nil _ _))
  have HC1 := Lib.hid hc
  have HY := Lib.hid (And.intro hF (And.intro e1 (And.intro e2 e3)))
  clear hw hc hF hy e1 e2 e3 H4 HC HFV
  go_wp2_with fail
  refine H5.out.mono ?_
  rintro e w5 ⟨rfl, hB5, hb5⟩
  have H6 := Lib.hid ((HC1.out.below hb5).evict 0 (by omega) (by simp) (by omega))
  clear hB5 hb5 H5
  go_wp2_with fail
  refine H6.out.mono ?_
  rintro e w6 ⟨x, hx, ⟨hp, _⟩ | ⟨_, rfl, hc, _⟩⟩
  · rw [List.mem_singleton.1 hx, HY.out.2.2.1] at hp; exact absurd hp (by omega)
  have hxy := List.mem_singleton.1 hx
  subst hxy
  have H7 := Lib.hid (full_any A la ca xs w6 HAB.out.1 HAB.out.2.2.2.2.1 (HAB.out.2.2.1.below hc.bel))
  have HC2 := Lib.hid hc
  clear hc hx H6
  go_wp2_with fail
  refine H7.out.mono ?_
  rintro e wS ⟨rfl, hB5, hb5⟩
  have HS := Lib.hid (HC2.out.more hb5 (fun k => k = w6.heap.size) (fun k hk => .inr ⟨by omega, by have := hB5.lt; omega⟩))
  have HF : Hid (Five (outD D1 x) (delL x.s [x]) (filled xs 256)) := Lib.hid (by
    have h9 := HY.out.1.del
    rw [HY.out.2.1]
    refine ⟨h9.1.all, h9.1.len, ?_⟩
    rw [HC1.out.st.outR (by simp), if_pos HY.out.2.1, HY.out.2.2.2])
  have HW : Hid (Bytes wS (some ⟨w6.heap.size, 0, none⟩) (filled xs 256)) := Lib.hid (Bytes.row hB5)
  have HFL : Hid ((filled xs 256).length = 256) := Lib.hid (filled_length xs 256 (by rw [HAB.out.1]; exact HAB.out.2.2.2.2.1))
  obtain ⟨qw, hqw⟩ : ∃ qw, w6.heap.size = qw := ⟨_, rfl⟩
  obtain ⟨fW, hfW⟩ : ∃ fW, filled xs 256 = fW := ⟨_, rfl⟩
  rw [hfW] at HF HW HFL
  obtain ⟨L2, hL2⟩ : ∃ L2, delL x.s [x] = L2 := ⟨_, rfl⟩
  rw [hL2] at HS HF
  rw [hqw] at HS HW
  simp only [hqw]
  have H6 := Lib.hid (twin_any B lb cb ys wS HAB.out.2.1 (by have := HAB.out.2.2.2.2.2; omega) (HAB.out.2.2.2.1.below HS.out.bel))
  have HT : Hid (0 + 1 + 1 < 1000) := Lib.hid (by omega)
  obtain ⟨tS, htS⟩ : ∃ tS, 0 + 1 + 1 = tS := ⟨_, rfl⟩
  rw [htS] at HS HT
  clear hB5 hb5 H7 HC1 HC2 HY hqw hfW hL2 htS
  go_wp2_with fail
  refine H6.out.mono ?_
  rintro e w7 ⟨A2, c2, rfl, ho, hb⟩
  have H7 := Lib.hid (HS.out.writeT hb ho (s := 5) (by omega) (by have := HT.out; omega) HAB.out.2.2.2.2.2)
  clear ho hb H6
  go_wp2_with fail
  refine H7.out.mono ?_
  rintro e w8 (⟨rfl, hs, _⟩ | ⟨D3, L3, y3, rfl, hw, hc, hk⟩)
  · exact absurd hs HF.out.nostuck
  obtain ⟨hF, hy, e1, e2, _⟩ := HF.out.wrote hw
  have H8 := hc.drop hy e2
  rw [e1] at H8
  replace H8 := Lib.hid H8
  have HF3 := Lib.hid hF
  have HW8 := Lib.hid (hk.bytes HW.out (fun p e => by cases e; rfl))
  clear hw hc hk hF hy e1 e2 H7 HF HW HS
  go_wp2_with fail
  refine H8.out.mono ?_
  rintro e w9 ⟨rfl, hc, hk⟩
  obtain ⟨hF, e0⟩ := HF3.out.del
  rw [e0] at hF hc
  have H9 := Lib.hid (hc.read (s := 5) (by omega) (by have := HT.out; omega))
  have HF4 := Lib.hid hF
  have HW9 := Lib.hid (hk.bytes HW8.out (fun p e => by cases e; rfl))
  clear hc hk hF e0 H8 HF3 HW8
  go_wp2_with fail
  refine H9.out.mono ?_
  rintro e w10 (⟨rfl, hs, _⟩ | ⟨D5, L5, y5, q5, c5, rfl, hb, hrw, _, hc, hk⟩)
  · exact absurd hs HF4.out.nostuck
  obtain ⟨hall, e5⟩ := HF4.out.brought hb
  rw [e5] at hrw
  have H10 := Lib.hid (samet_any (some ⟨q5, 0, none⟩) (some ⟨qw, 0, none⟩) 256 c5 256 256 fW w10 HFL.out HFL.out hrw.bytes (hk.bytes HW9.out (fun p e => by cases e; rfl)))
  have H11 := Lib.hid (hc.drop_none (i := 6) (by decide) (fun x hx e => by have := hall x hx; omega))
  have H12 := Lib.hid (works_any w10)
  have HB := Lib.hid hc.bel
  clear hb hrw hc hk hall e5 H9 HF4 HW9
  go_wp2_with (first
    | (go_at_call 14; refine H10.out.mono ?_; rintro e w' ⟨rfl, rfl⟩)
    | (go_at_call 22; refine H11.out.mono ?_; rintro e w' ⟨rfl, rfl⟩)
    | fail)
  refine H12.out.mono ?_
  rintro e w11 ⟨rfl, hb⟩
  have HB2 := Lib.hid (HB.out.trans (hb.mono HB.out.size))
  clear hb
  go_wp2_with fail
  go_ret
  exact ⟨rfl, HB2.out⟩
theorem drops_any (A B : Option Addr) (la ca lb cb : Nat) (xs ys : List UInt8) (out : Bool) (w : World) (ha : xs.length = la) (hb : ys.length = lb) (hA : Bytes w A xs) (hB : Bytes w B ys) :
    Calls Try.prog 6 #[.slice A la ca, .slice B lb cb, .bool out] w fun e w' => e = .returned (.bool true) ∧ Below w.heap.size w w' := by
  by_cases h : 256 < la ∨ 256 < lb
  · exact drops_long A B la ca lb cb out w h
  · cases out
    · exact drops_false A B la ca lb cb xs ys w ha hb hA hB (by omega) (by omega)
    · exact drops_true A B la ca lb cb xs ys w ha hb hA hB (by omega) (by omega)
end Go.Proofs.Ytiemfhncadcemaa
