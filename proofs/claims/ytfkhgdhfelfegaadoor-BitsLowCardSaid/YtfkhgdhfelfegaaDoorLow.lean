/- BitsLow. -/
import Derived.Test.YtfkhgdhfelfegaaDoorQ
namespace Go.Proofs.YtfkhgdhfelfegaaDoor
open Go.RowKit Bts

set_option maxRecDepth 40000 in
set_option maxHeartbeats 2000000 in
theorem lowlaw_any (a f : Nat) (A : Option Addr) (len cap : Nat) (ls : List (Bool × Int)) (w : World) (_ha : a < 65536) (_hf : f < 65536) (hlen : ls.length = len) (hls : Stps w A ls) (hT : Tab w) :
    Calls Tryd.prog 6 #[.int .u16 (a : Int), .slice A len cap, .int .u16 (f : Int)] w fun e W' => e = .returned (.bool true) ∧ Below w.heap.size w W' := by
  by_cases hbig : 300 < len
  · have hW := Lib.hid (works_any w hT)
    clear hls hT
    go_enter Tryd.func6, Tryd.ntmps6
    go_wp2_with fail
    refine hW.out.mono ?_
    rintro e w' ⟨rfl, hb⟩
    have HB := Lib.hid hb
    clear hb hW
    go_wp2_with fail
    go_ret
    exact ⟨rfl, HB.out⟩
  · obtain ⟨m, hm⟩ : ∃ m, a % 3000 = m := ⟨_, rfl⟩
    have hm3 : m < 3000 := by omega
    have hmi : (a : Int) % 3000 = (m : Int) := by omega
    obtain ⟨g, hg⟩ : ∃ g, f % 3000 = g := ⟨_, rfl⟩
    have hg3 : g < 3000 := by omega
    have hgi : (f : Int) % 3000 = (g : Int) := by omega
    have hn := Lib.hid (new_some m w (by omega))
    have HT := Lib.hid hT
    have HS := Lib.hid hls
    have HL := Lib.hid hlen
    have HBIG := Lib.hid hbig
    have hlen300 : len ≤ 300 := by omega
    clear hT hm hg hls hlen hbig
    go_enter Tryd.func6, Tryd.ntmps6
    go_wp2_with fail
    refine hn.out.mono ?_
    rintro e w1 ⟨p, q, rfl, hp, hq, hb, hbel⟩
    have hst := Lib.hid (St.start HT.out hb hq hbel)
    clear hb hbel hp hq hn HT
    go_wp2_with fail
    go_loopw [10] (fun i wr => ∃ (k : Nat) (S : Nat → Bool), k ≤ g ∧ i = .int .i64 k ∧ Hid (St w.heap.size p q m S w wr)) (fun i _ => g - (intOf i).toNat)
    case atStart => exact ⟨0, _, Nat.zero_le _, rfl, hst⟩
    case round =>
      clear hst
      obtain ⟨k, S, hk, rfl, hst⟩ := hrel
      by_cases hlt : k < g
      · have H1 := Lib.hid (set_st' (i := (k : Int)) hst.out)
        go_wp2_with fail
        refine H1.out.mono ?_
        rintro e w' ⟨rfl, h1⟩
        have hst' := Lib.hid h1
        clear h1 H1
        go_wp2_with fail
        go_roundw
        case rel => exact ⟨k + 1, _, by omega, by go_num, hst'⟩
        case measure => simp [intOf]; omega
      · obtain rfl : k = g := by omega
        go_wp2_with fail
        have HMI := Lib.hid hmi
        clear hmi hgi
        go_loopw [11] (fun i wr => ∃ (r : Nat) (S : Nat → Bool), r ≤ len ∧ i = .int .i64 r ∧ Hid (St w.heap.size p q m S w wr)) (fun i _ => len - (intOf i).toNat)
        case atStart => exact ⟨0, _, Nat.zero_le _, rfl, hst⟩
        case round =>
          clear hst S
          obtain ⟨r, S, hr, rfl, hst⟩ := hrel
          by_cases hlr : r < len
          · obtain ⟨b, off, c, i, hA, hb, _, hc1, hc2, _⟩ := HS.out.at_ (k := r) (by have := HL.out; omega)
            have g1 := (hst.out.bel.cell (p := ⟨b, off + r * 2, none⟩) hb).trans hc1
            have g2 := (hst.out.bel.cell (p := ⟨b, off + r * 2 + 1, none⟩) hb).trans hc2
            have H1 := Lib.hid (set_st' (i := i) hst.out)
            have H2 := Lib.hid (clear_st' (i := i) hst.out)
            subst hA
            clear hc1 hc2 hb
            cases c
            · go_wp2_with fail
              refine H1.out.mono ?_
              rintro e w' ⟨rfl, h1⟩
              have hst' := Lib.hid h1
              clear h1 H1 H2 g1 g2
              go_wp2_with fail
              go_roundw
              case rel => exact ⟨r + 1, _, by omega, by go_num, hst'⟩
              case measure => simp [intOf]; omega
            · go_wp2_with fail
              refine H2.out.mono ?_
              rintro e w' ⟨rfl, h1⟩
              have hst' := Lib.hid h1
              clear h1 H1 H2 g1 g2
              go_wp2_with fail
              go_roundw
              case rel => exact ⟨r + 1, _, by omega, by go_num, hst'⟩
              case measure => simp [intOf]; omega
          · obtain rfl : r = len := by omega
            have hmi := HMI.out
            have H1 := Lib.hid (low_any p q m S _ hst.out.bs hst.out.tab)
            go_wp2_with fail
            refine H1.out.mono ?_
            rintro e w' ⟨⟨n, hn, rfl⟩ | ⟨hn, rfl⟩, rfl⟩
            · have hnm : n < m := hn.1
              have HN := Lib.hid hn
              clear H1 hn
              go_wp2_with fail
              go_loopw [14] (fun i wr => ∃ (s : Nat), s ≤ n ∧ i = .int .i64 s ∧ Hid (St w.heap.size p q m S w wr)) (fun i _ => n - (intOf i).toNat)
              case atStart => exact ⟨0, Nat.zero_le _, rfl, hst⟩
              case round =>
                clear hst
                obtain ⟨s, hs, rfl, hst⟩ := hrel
                by_cases hsn : s < n
                · have H1 := Lib.hid (has_st true (i := (s : Int)) hst.out (by rw [hasB_in _ _ _ (by omega)]; exact HN.out.2.2 s hsn))
                  go_wp2_with fail
                  refine H1.out.mono ?_
                  rintro e w' ⟨rfl, h1⟩
                  have hst' := Lib.hid h1
                  clear h1 H1
                  go_wp2_with fail
                  go_roundw
                  case rel => exact ⟨s + 1, by omega, by go_num, hst'⟩
                  case measure => simp [intOf]; omega
                · obtain rfl : s = n := by omega
                  have H1 := Lib.hid (has_st false (i := (s : Int)) hst.out (by rw [hasB_in _ _ _ (by omega)]; exact HN.out.2.1))
                  go_wp2_with fail
                  refine H1.out.mono ?_
                  rintro e w' ⟨rfl, h1⟩
                  have H2 := Lib.hid (works_st h1)
                  clear h1 H1
                  go_wp2_with fail
                  refine H2.out.mono ?_
                  rintro e w' ⟨rfl, h1⟩
                  have HB := Lib.hid h1.bel
                  clear h1 H2
                  go_wp2_with fail
                  go_ret
                  exact ⟨rfl, HB.out⟩
            · have H2 := Lib.hid (count_is m hst.out.bs (card_full m hn))
              have H3 := Lib.hid (works_st hst.out)
              clear H1 hn
              go_wp2_with (first
                | (go_at_call 21; refine H2.out.mono ?_; rintro e w' ⟨rfl, rfl⟩)
                | (go_at_call 9; refine H3.out.mono ?_; rintro e w' ⟨rfl, h3⟩; have HB := Lib.hid h3.bel; clear h3))
              go_ret
              exact ⟨rfl, HB.out⟩

end Go.Proofs.YtfkhgdhfelfegaaDoor
