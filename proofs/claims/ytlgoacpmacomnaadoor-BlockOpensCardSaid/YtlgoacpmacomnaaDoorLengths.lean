/- BlockLengths. -/
import Derived.Test.YtlgoacpmacomnaaDoorD
namespace Go.Proofs.YtlgoacpmacomnaaDoor
open Go.RowKit Crc

theorem own_of_blk {w : World} {base g n : Nat} {bs : List UInt8} (h : Blk w g 5 (row8 bs)) (hn : bs.length = n) (hm : n ≤ maxLen) (hb : base ≤ g) : w.ownsRow base 5 1 (.slice (some ⟨g, 0, none⟩) n n) n (bs.map bv) :=
  ⟨by simp [hn], .inr ⟨g, n, row8 bs, rfl, hb, h, Nat.le_refl _, hm, by simp [row8, hn], by rw [Nat.mul_one]; exact List.take_of_length_le (by simp [row8, hn])⟩⟩
theorem own_cap {w : World} {base n c : Nat} {A : Option Addr} {xs : List Value} (h : w.ownsRow base 5 1 (.slice A n c) n xs) : n ≤ c ∧ c ≤ maxLen := by
  rcases h.2 with ⟨e, rfl⟩ | ⟨g, cap, cur, e, _, _, h1, h2, _⟩
  · injection e with _ _ e; subst e; exact ⟨Nat.zero_le _, Nat.zero_le _⟩
  · injection e with _ _ e; subst e; exact ⟨h1, h2⟩
theorem Bytes.take {w : World} {A : Option Addr} {bs : List UInt8} (h : Bytes w A bs) (m : Nat) : Bytes w A (bs.take m) := fun k c hk => h k c (by
  have := (List.getElem?_eq_some_iff.1 hk).1
  simp at this
  rwa [List.getElem?_take_of_lt (by omega)] at hk)

set_option maxRecDepth 20000 in
set_option maxHeartbeats 1000000 in
theorem lengths_any (k a : Nat) (A : Option Addr) (len cap : Nat) (bs : List UInt8) (w : World) (hk : k < 256) (_ha : a < 65536) (hlen : bs.length = len) (hA : Bytes w A bs) (hT : Tab w) :
    Calls Tryd.prog 8 #[.int .u8 (k : Int), .slice A len cap, .int .u16 (a : Int)] w fun e W' => e = .returned (.bool true) ∧ Below w.heap.size w W' := by
  have HW := Lib.hid (works_any w hT)
  by_cases hbig : 248 < len
  · have hd : decide ((248 : Int) < (len : Int)) = true := by simp; omega
    clear hA hT
    go_enter Tryd.func8, Tryd.ntmps8
    go_wp2_with fail
    refine HW.out.mono ?_
    rintro e w' ⟨rfl, hb⟩
    have HB := Lib.hid hb
    clear hb
    go_wp2_with fail
    go_ret
    exact ⟨rfl, HB.out⟩
  have hd : decide ((248 : Int) < (len : Int)) = false := by simp; omega
  by_cases hk0 : k = 0
  · subst hk0
    clear hA hT
    go_enter Tryd.func8, Tryd.ntmps8
    go_wp2_with fail
    refine HW.out.mono ?_
    rintro e w' ⟨rfl, hb⟩
    have HB := Lib.hid hb
    clear hb
    go_wp2_with fail
    go_ret
    exact ⟨rfl, HB.out⟩
  have hk0' : ((k : Int) == 0) = false := by simpa using hk0
  obtain ⟨m, hm⟩ : ∃ m, a % 600 = m := ⟨_, rfl⟩
  have hm6 : m < 600 := by omega
  have hmi : (a : Int) % 600 = (m : Int) := by omega
  have H1 := Lib.hid (seal_yes k A len cap bs w hk hk0 hlen (by omega) hA hT)
  have HT := Lib.hid hT
  have HBK : Hid (IsBlk (blockOf k bs) k bs) := Lib.hid ⟨by omega, hk, by omega, rfl⟩
  have HLN : Hid ((blockOf k bs).length = 256) := Lib.hid (blockOf_length k bs (by omega))
  clear hA hT hm hlen HW hk hbig hk0
  go_enter Tryd.func8, Tryd.ntmps8
  go_wp2_with fail
  refine H1.out.mono ?_
  rintro e w1 ⟨g, rfl, hg, hR, hb1⟩
  have hown := Lib.hid (own_of_blk (base := w.heap.size) hR HLN.out (by decide) hg)
  have HB1 := Lib.hid hb1
  clear H1 hg hR hb1
  go_wp2_with fail
  go_loopw [7] (fun v wr => ∃ (L : Nat) (A' : Option Addr) (c : Nat) (xs : List UInt8), 256 ≤ L ∧ (L = 256 ∨ L ≤ m) ∧ v = .slice A' L c ∧ Hid (wr.ownsRow w.heap.size 5 1 (.slice A' L c) L (xs.map bv)) ∧ Hid (L = 256 → xs = blockOf k bs) ∧ Hid (Below w.heap.size w wr)) (fun v _ => m - lenV v)
  case atStart => exact ⟨256, _, _, blockOf k bs, Nat.le_refl _, .inl rfl, rfl, hown, Lib.hid (fun _ => rfl), HB1⟩
  case round =>
    clear hown HB1
    obtain ⟨L, A', c, xs, hL, hLm, rfl, hown, hxs, hbel⟩ := hrel
    have hxl : xs.length = L := by have := hown.out.1; simpa using this
    obtain ⟨hLc, hcm⟩ := own_cap hown.out
    by_cases hlt : L < m
    · have hszw := hbel.out.size
      obtain ⟨v2, w2, hrun2, hown2, hgr2⟩ := run_app1 wr w.heap.size _ L xs 0 hown.out (by omega) hszw
      obtain ⟨A2, c2, rfl⟩ := own_shape hown2
      have hb2 : Below w.heap.size w w2 := (hbel.out.alloc hszw _).grown hgr2 (by rw [World.size_alloc]; omega) (fun k e => (hown.out.lt k e).1)
      have HR2 := Lib.hid (show (Builtin.append_ #[22, 22] 22 #[.slice A' L c, .slice (some ⟨wr.heap.size, 0, none⟩) 1 1]).run Tryd.prog (wr.alloc (.cells #[.int .u8 0] 5)) = .ok (.slice A2 (L + 1) c2) w2 from hrun2)
      have HO2 := Lib.hid hown2
      have HB2 := Lib.hid hb2
      clear hrun2 hown2 hgr2 hb2 hown hxs hxl hLc hcm
      go_wp2_with (at_builtin; refine wpList_app rfl _ _ 22 rfl _ _ _ _ rfl rfl HR2.out ?_; clear HR2)
      go_roundw
      case rel => exact ⟨L + 1, A2, c2, xs ++ [0], by omega, .inr (by omega), rfl, HO2, Lib.hid (fun e => by omega), HB2⟩
      case measure => simp [lenV]; omega
    · have hmL : m ≤ L := by omega
      have hmc : m ≤ c := by omega
      unfold maxLen at hcm
      have hA' := (Bytes.of_own hown.out).take m
      by_cases h256 : m = 256
      · subst h256
        obtain rfl : L = 256 := by omega
        have e := hxs.out rfl
        rw [e, List.take_of_length_le (by rw [HLN.out]; exact Nat.le_refl _)] at hA'
        have H2 := Lib.hid (open_yes A' 256 c k (blockOf k bs) bs wr HLN.out hA' hLc (HT.out.below hbel.out) HBK.out)
        clear hA' hxl e
        go_wp2_with fail
        refine H2.out.mono ?_
        rintro e w2 ⟨g2, rfl, hg2, hR2, hb2⟩
        have HB2 := Lib.hid (hbel.out.trans (hb2.mono hbel.out.size))
        have H3 := Lib.hid (works_any w2 (HT.out.below HB2.out))
        clear H2 hg2 hR2 hb2
        go_wp2_with fail
        refine H3.out.mono ?_
        rintro e w3 ⟨rfl, hb3⟩
        have HB3 := Lib.hid (HB2.out.trans (hb3.mono HB2.out.size))
        clear hb3
        go_wp2_with fail
        go_ret
        exact ⟨rfl, HB3.out⟩
      · have hne : ((m : Int) == 256) = false := by simp; omega
        have htl : (xs.take m).length = m := by rw [List.length_take, hxl]; omega
        have H2 := Lib.hid (open_no A' m c (xs.take m) wr htl hA' hmc (HT.out.below hbel.out) (not_isBlk fun n h => h256 (by rw [← htl]; exact h.len)))
        clear hA' hxl htl
        go_wp2_with fail
        refine H2.out.mono ?_
        rintro e w2 ⟨rfl, hb2⟩
        have HB2 := Lib.hid (hbel.out.trans (hb2.mono hbel.out.size))
        have H3 := Lib.hid (works_any w2 (HT.out.below HB2.out))
        clear H2 hb2
        go_wp2_with fail
        refine H3.out.mono ?_
        rintro e w3 ⟨rfl, hb3⟩
        have HB3 := Lib.hid (HB2.out.trans (hb3.mono HB2.out.size))
        clear hb3
        go_wp2_with fail
        go_ret
        exact ⟨rfl, HB3.out⟩

end Go.Proofs.YtlgoacpmacomnaaDoor
