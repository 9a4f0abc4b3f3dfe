/- CrcPlace. -/
import Derived.Test.YtbihhjcgiaaopaaDoorW
import Derived.Test.YtbihhjcgiaaopaaDoorK
import Derived.Lib.MinMax
namespace Go.Proofs.YtbihhjcgiaaopaaDoor
open Go.RowKit Crc

theorem Bytes.under {w w' : World} {g o B : Nat} {bs : List UInt8} (h : Bytes w (some ⟨g, o, none⟩) bs) (hg : g < B) (hb : Below B w w') : Bytes w' (some ⟨g, o, none⟩) bs := fun k c hk => by
  obtain ⟨b, off, e, hlt, hc⟩ := h k c hk
  cases e
  exact ⟨g, o, rfl, Nat.lt_of_lt_of_le hlt hb.size, (hb.cell (p := ⟨g, o + k, none⟩) hg).trans hc⟩
theorem Bytes.take {w : World} {A : Option Addr} {bs : List UInt8} (h : Bytes w A bs) (n : Nat) : Bytes w A (bs.take n) := fun k c hk => by
  refine h k c ?_
  rw [List.getElem?_take] at hk
  split at hk
  · exact hk
  · cases hk
theorem row_cap {k : IntKind} {w : World} {a : Option Addr} {len cap : Nat} {zs : List Int} (h : IsRow k w a len cap zs) : len ≤ cap ∧ cap ≤ maxLen := by
  rcases h with ⟨rfl, rfl, rfl, rfl⟩ | ⟨x, rfl, hl, hm, _⟩
  · exact ⟨Nat.le_refl _, Nat.zero_le _⟩
  · exact ⟨hl, hm⟩

theorem turned_sum (xs : List UInt8) (k : Nat) (t : UInt8) (hk : k < xs.length) : sumFrom 0 (turned xs k t) = sumFrom 0 xs ^^^ Ln (8 * (xs.length - k)) t.toNat := by
  unfold sumFrom
  rw [F_turned _ _ _ _ hk, Nat.xor_assoc, Nat.xor_assoc, Nat.xor_comm ones]
theorem xor_back (a d : Nat) : (a ^^^ d) ^^^ a = d := by rw [Nat.xor_comm a d, Nat.xor_assoc, Nat.xor_self, Nat.xor_zero]
theorem turned_same (xs : List UInt8) (k : Nat) (t : UInt8) (hk : k < xs.length) : sumFrom 0 (turned xs k t) = sumFrom 0 xs ↔ t.toNat = 0 := by
  rw [turned_sum xs k t hk]
  constructor
  · intro h
    have := congrArg (· ^^^ sumFrom 0 xs) h
    simp only [xor_back, Nat.xor_self] at this
    exact Ln_inj _ (Nat.lt_trans t.toNat_lt (by decide)) this
  · intro h
    rw [h, Ln_zero, Nat.xor_zero]

set_option maxHeartbeats 800000 in
theorem place_any (A B : Option Addr) (la ca lb cb a t : Nat) (ps bs : List UInt8) (w : World) (hla : ps.length = la) (hlb : bs.length = lb) (hT : Tab w) (hA : Bytes w A ps) (hB : Bytes w B bs) (hca : la ≤ ca) (hcb : lb ≤ cb) (_hma : ca ≤ maxLen) (_hmb : cb ≤ maxLen) (ha : a < 65536) (ht : t < 256) :
    Calls Tryd.prog 8 #[.slice A la ca, .slice B lb cb, .int .u16 a, .int .u8 t] w fun e W' => e = .returned (.bool true) ∧ Below w.heap.size w W' := by
  have hWK := Lib.hid (works_any w hT)
  have HT := Lib.hid hT
  unfold maxLen at _hma _hmb
  obtain ⟨n, hn⟩ : ∃ n, min la lb = n := ⟨_, rfl⟩
  have hni : min (la : Int) (lb : Int) = (n : Int) := by omega
  by_cases hbig : 4096 < n ∨ n = 0
  · clear hT hA hB
    have hna : n ≤ la := by omega
    have hnb : n ≤ lb := by omega
    clear hn
    rcases hbig with hbig | rfl
    · go_enter Tryd.func8, Tryd.ntmps8
      go_wp2_with fail
      refine hWK.out.mono ?_
      rintro e w1 ⟨rfl, hb⟩
      have HB := Lib.hid hb
      clear hb
      go_wp2
      go_ret
      exact ⟨rfl, HB.out⟩
    · go_enter Tryd.func8, Tryd.ntmps8
      go_wp2_with fail
      refine hWK.out.mono ?_
      rintro e w1 ⟨rfl, hb⟩
      have HB := Lib.hid hb
      clear hb
      go_wp2
      go_ret
      exact ⟨rfl, HB.out⟩
  · have hn1 : n ≤ 4096 := by omega
    have hn0 : 0 < n := by omega
    have hna : n ≤ la := by omega
    have hnb : n ≤ lb := by omega
    obtain ⟨k, hke⟩ : ∃ k, a % n = k := ⟨_, rfl⟩
    have hkn : k < n := by rw [← hke]; exact Nat.mod_lt _ hn0
    have hki : (a : Int) % (n : Int) = (k : Int) := by rw [← hke]; push_cast; rfl
    obtain ⟨ba, oa, rfl, -, -⟩ := hA.at_ (k := 0) (by omega)
    obtain ⟨bb, ob, rfl, -, -⟩ := hB.at_ (k := 0) (by omega)
    obtain ⟨xs, hxs⟩ : ∃ xs, ps.take n = xs := ⟨_, rfl⟩
    obtain ⟨ys, hys⟩ : ∃ ys, bs.take n = ys := ⟨_, rfl⟩
    have hxl : xs.length = n := by rw [← hxs]; simp; omega
    have hyl : ys.length = n := by rw [← hys]; simp; omega
    have hAx := hA.take n
    have hBy := hB.take n
    rw [hxs] at hAx
    rw [hys] at hBy
    -- the first copy
    have hb0 : Below w.heap.size w (w.alloc (.cells #[] 5)) := (Below.refl _ w).alloc (Nat.le_refl _) _
    obtain ⟨v1, w1, hrun1, hown1, hgr1⟩ := run_app8 (w.alloc (.cells #[] 5)) w.heap.size _ 0 [] (own_new w w.heap.size (Nat.le_refl _)) (some ⟨ba, oa, none⟩) n ca xs hxl (hAx.below hb0) (by omega) (by simp)
    rw [List.nil_append, Nat.zero_add] at hown1
    have hb1 : Below w.heap.size w w1 := hb0.grown hgr1 (by simp) (fun k e => by simp [Value.ownBlock] at e; omega)
    obtain ⟨g1, c1, rfl, hg1, hglt1, hcell1, hfz1⟩ := own_form hown1 (by omega)
    -- the second
    obtain ⟨wb, hwb⟩ : ∃ wb, w1.alloc (.cells #[] 5) = wb := ⟨_, rfl⟩
    have hbb : Below w1.heap.size w1 wb := by rw [← hwb]; exact (Below.refl _ w1).alloc (Nat.le_refl _) _
    have hnew := own_new w1 w1.heap.size (Nat.le_refl _)
    rw [hwb] at hnew
    have hszb : wb.heap.size = w1.heap.size + 1 := by rw [← hwb, World.size_alloc]
    obtain ⟨v2, w2, hrun2, hown2, hgr2⟩ := run_app8 wb w1.heap.size _ 0 [] hnew (some ⟨bb, ob, none⟩) n cb ys hyl ((hBy.below hb1).below hbb) (by omega) (by omega)
    rw [List.nil_append, Nat.zero_add] at hown2
    have hb2 : Below w1.heap.size w1 w2 := hbb.grown hgr2 (by omega) (fun k e => by simp [Value.ownBlock] at e; omega)
    obtain ⟨g2, c2, rfl, hg2, hglt2, hcell2, hfz2⟩ := own_form hown2 (by omega)
    have hBw2 : Below w.heap.size w w2 := hb1.trans (hb2.mono hb1.size)
    have hT2 := hT.below hBw2
    have hX2 : Bytes w2 (some ⟨g1, 0, none⟩) xs := (Bytes.of_own hown1).below hb2
    have hsx := sum_anyL (some ⟨g1, 0, none⟩) n c1 xs w2 hxl hT2 hX2 (by unfold maxLen; omega)
    have hsy := sum_anyL (some ⟨g2, 0, none⟩) n c2 ys w2 hyl hT2 (Bytes.of_own hown2) (by unfold maxLen; omega)
    -- the stores
    have hkx : k < xs.length := by omega
    have hky : k < ys.length := by omega
    have hcx : w2.cell? ⟨g1, k, none⟩ = some (.int .u8 (xs[k].toNat : Int)) := (hb2.cell (p := ⟨g1, k, none⟩) hglt1).trans (hcell1 k (bv xs[k]) (by simp [hkx]))
    have hfx : w2.frozen? ⟨g1, k, none⟩ = false := (hb2.frozen (p := ⟨g1, k, none⟩) hglt1).trans (hfz1 k)
    have hT8 : (UInt8.ofNat t).toNat = t := by rw [UInt8.toNat_ofNat']; exact Nat.mod_eq_of_lt ht
    have hxx : bits .xor .u8 (xs[k].toNat : Int) (t : Int) = (((xs[k] ^^^ UInt8.ofNat t).toNat : Nat) : Int) := by
      rw [u8_xor_nat _ _ xs[k].toNat_lt (by omega), UInt8.toNat_xor, hT8]
    have hxy : bits .xor .u8 (ys[k].toNat : Int) (t : Int) = (((ys[k] ^^^ UInt8.ofNat t).toNat : Nat) : Int) := by
      rw [u8_xor_nat _ _ ys[k].toNat_lt (by omega), UInt8.toNat_xor, hT8]
    have hcell2' := hcell2 k (bv ys[k]) (by simp [hky])
    have hfz2' := hfz2 k
    obtain ⟨w3, hw3⟩ : ∃ w3, w2.setCell ⟨g1, k, none⟩ (.int .u8 ((xs[k] ^^^ UInt8.ofNat t).toNat : Int)) = w3 := ⟨_, rfl⟩
    have hO13 := own_set (own_below hown1 hb2) k (bv (xs[k] ^^^ UInt8.ofNat t))
    rw [turned_set _ _ _ hkx] at hO13
    have hO23 : w3.ownsRow w1.heap.size 5 1 (.slice (some ⟨g2, 0, none⟩) n c2) n (ys.map bv) := by rw [← hw3]; exact ownsRow_setCell_below hown2 (a := ⟨g1, k, none⟩) hglt1 _
    have hO13' : w3.ownsRow w.heap.size 5 1 (.slice (some ⟨g1, 0, none⟩) n c1) n ((turned xs k (UInt8.ofNat t)).map bv) := by rw [← hw3]; exact hO13
    have hBw3 : Below w.heap.size w w3 := by rw [← hw3]; exact hBw2.setCell (p := ⟨g1, k, none⟩) hg1 _
    have hsz3 : w3.heap.size = w2.heap.size := by rw [← hw3]; simp
    obtain ⟨g2', c2', hv2', -, -, hcell3, hfz3⟩ := own_form hO23 (by omega)
    obtain ⟨rfl, rfl⟩ : g2' = g2 ∧ c2' = c2 := by simp at hv2'; omega
    have hcy : w3.cell? ⟨g2', k, none⟩ = some (.int .u8 (ys[k].toNat : Int)) := hcell3 k (bv ys[k]) (by simp [hky])
    have hfy := hfz3 k
    obtain ⟨w4, hw4⟩ : ∃ w4, w3.setCell ⟨g2', k, none⟩ (.int .u8 ((ys[k] ^^^ UInt8.ofNat t).toNat : Int)) = w4 := ⟨_, rfl⟩
    have hO24 := own_set hO23 k (bv (ys[k] ^^^ UInt8.ofNat t))
    rw [turned_set _ _ _ hky] at hO24
    have hb34 : Below w1.heap.size w3 w4 := by rw [← hw4]; exact (Below.refl _ w3).setCell (p := ⟨g2', k, none⟩) hg2 _
    have hBw4 : Below w.heap.size w w4 := hBw3.trans (hb34.mono hb1.size)
    have hT4 := hT.below hBw4
    have hX4 : Bytes w4 (some ⟨g1, 0, none⟩) (turned xs k (UInt8.ofNat t)) := (Bytes.of_own hO13').under hglt1 hb34
    have hY4 : Bytes w4 (some ⟨g2', 0, none⟩) (turned ys k (UInt8.ofNat t)) := by rw [← hw4]; exact Bytes.of_own hO24
    have hsx4 := sum_anyL (some ⟨g1, 0, none⟩) n c1 _ w4 (by rw [turned_length]; exact hxl) hT4 hX4 (by unfold maxLen; omega)
    have hsy4 := sum_anyL (some ⟨g2', 0, none⟩) n c2' _ w4 (by rw [turned_length]; exact hyl) hT4 hY4 (by unfold maxLen; omega)
    have hw := works_any w4 hT4
    -- the numbers
    have e1 := turned_sum xs k (UInt8.ofNat t) hkx
    have e2 := turned_sum ys k (UInt8.ofNat t) hky
    have e3 := turned_same xs k (UInt8.ofNat t) hkx
    rw [hT8] at e1 e2 e3
    rw [hxl] at e1
    rw [hyl] at e2
    have l1 := sumFrom_lt (x := 0) (by decide) xs
    have l2 := sumFrom_lt (x := 0) (by decide) ys
    have l3 := sumFrom_lt (x := 0) (by decide) (turned xs k (UInt8.ofNat t))
    have l4 := sumFrom_lt (x := 0) (by decide) (turned ys k (UInt8.ofNat t))
    generalize sumFrom 0 (turned xs k (UInt8.ofNat t)) = x1 at *
    generalize sumFrom 0 (turned ys k (UInt8.ofNat t)) = y1 at *
    generalize sumFrom 0 xs = x0 at *
    generalize sumFrom 0 ys = y0 at *
    have q1 := u32_xor_nat x1 x0 l3 l1
    have q2 := u32_xor_nat y1 y0 l4 l2
    rw [show x1 ^^^ x0 = Ln (8 * (n - k)) t by rw [e1, xor_back]] at q1
    rw [show y1 ^^^ y0 = Ln (8 * (n - k)) t by rw [e2, xor_back]] at q2
    generalize Ln (8 * (n - k)) t = d at *
    have q3 : ((x1 : Int) == (x0 : Int)) = ((t : Int) == 0) := by
      rw [Bool.eq_iff_iff]
      simp only [beq_iff_eq]
      omega
    generalize (xs[k] ^^^ UInt8.ofNat t).toNat = nx at *
    generalize (ys[k] ^^^ UInt8.ofNat t).toNat = ny at *
    have bx := xs[k].toNat_lt
    have by' := ys[k].toNat_lt
    generalize xs[k].toNat = ox at *
    generalize ys[k].toNat = oy at *
    have hz1 : ((n : Int) == 0) = false := by rw [beq_eq_false_iff_ne]; omega
    have hz2 : ¬ (4096 < (n : Int)) := by omega
    have hz3 : ¬ ((n : Int) = 0) := by omega
    have HRUN1 := Lib.hid hrun1
    have HRUN2 := Lib.hid hrun2
    have HSX := Lib.hid hsx
    have HSY := Lib.hid hsy
    have HSX4 := Lib.hid hsx4
    have HSY4 := Lib.hid hsy4
    have HW := Lib.hid hw
    have HB4 := Lib.hid hBw4
    have HSZ4 : Hid (w.heap.size ≤ w4.heap.size) := Lib.hid hBw4.size
    clear hWK HT hn hke hA hB hAx hBy hxs hys hb0 hrun1 hown1 hgr1 hb1 hcell1 hfz1 hbb hnew hszb hrun2 hown2 hgr2 hb2 hcell2 hfz2 hBw2 hT2 hX2 hsx hsy hO13 hO23 hO13' hBw3 hsz3 hv2' hcell3 hfz3 hO24 hb34 hBw4 hT4 hX4 hY4 hsx4 hsy4 hw e1 e2 e3 hcell2' hfz2' hT8 hT
    go_enter Tryd.func8, Tryd.ntmps8
    go_wp2_with (first
      | (at_builtin; refine wpList_app rfl _ _ 23 rfl _ _ _ _ rfl rfl HRUN1.out ?_; clear HRUN1)
      | (at_builtin; refine wpList_app rfl _ _ 23 rfl _ _ _ _ rfl rfl HRUN2.out ?_; clear HRUN2)
      | (go_at_call 12; refine HSX.out.mono ?_; rintro e w' ⟨rfl, rfl⟩; clear HSX)
      | (go_at_call 12; refine HSY.out.mono ?_; rintro e w' ⟨rfl, rfl⟩; clear HSY))
    go_wp2_with (first
      | (go_at_call 12; refine HSX4.out.mono ?_; rintro e w' ⟨rfl, rfl⟩)
      | (go_at_call 12; refine HSY4.out.mono ?_; rintro e w' ⟨rfl, rfl⟩))
    refine HW.out.mono ?_
    rintro e w5 ⟨rfl, hb5⟩
    have HB5 := Lib.hid (HB4.out.trans (hb5.mono HSZ4.out))
    clear hb5 HW
    go_wp2
    go_ret
    exact ⟨rfl, HB5.out⟩

end Go.Proofs.YtbihhjcgiaaopaaDoor
