/- BitsPlays. -/
import Derived.Test.YtfkhgdhfelfegaaDoorY
namespace Go.Proofs.YtfkhgdhfelfegaaDoor
open Go.RowKit Bts

theorem alike_pl {B p q rp rq n : Nat} {S : Nat → Bool} {w wr : World} (h : Pl B p q rp rq n S w wr) :
    Calls Tryd.prog 11 #[.pointer (some ⟨p, 0, none⟩), .pointer (some ⟨rp, 0, none⟩)] wr fun e w' => e = .returned (.bool true) ∧ Pl B p q rp rq n S w w' := by
  refine (alike_any p q rp rq n S wr h.two).mono ?_
  rintro e w' ⟨rfl, hb⟩
  exact ⟨rfl, h.below hb⟩
theorem bhas_pl {B p q rp rq n : Nat} {i : Int} {S : Nat → Bool} {w wr : World} (h : Pl B p q rp rq n S w wr) :
    Calls Tryd.prog 12 #[.pointer (some ⟨p, 0, none⟩), .int .i64 i] wr fun e w' => e = .returned (.bool (hasB S n i)) ∧ Pl B p q rp rq n S w w' := by
  refine (has_is _ h.two.bs rfl).mono ?_
  rintro e w' ⟨rfl, hb⟩
  exact ⟨rfl, h.below hb⟩
theorem rhas_pl {B p q rp rq n : Nat} {i : Int} {S : Nat → Bool} {w wr : World} (h : Pl B p q rp rq n S w wr) :
    Calls Tryd.prog 13 #[.pointer (some ⟨rp, 0, none⟩), .int .i64 i] wr fun e w' => e = .returned (.bool (hasB S n i)) ∧ wr = w' := rhas_any rp rq n i S wr h.two.rs
theorem works_pl {B p q rp rq n : Nat} {S : Nat → Bool} {w wr : World} (h : Pl B p q rp rq n S w wr) : Calls Tryd.prog 9 #[] wr fun e w' => e = .returned (.bool true) ∧ Pl B p q rp rq n S w w' := by
  refine (works_any wr h.two.tab).mono ?_
  rintro e w' ⟨rfl, h1⟩
  exact ⟨rfl, h.below h1⟩

set_option maxRecDepth 20000 in
set_option maxHeartbeats 1000000 in
theorem plays_any (n i : Int) (A : Option Addr) (len cap : Nat) (ls : List (Bool × Int)) (w : World) (hlen : ls.length = len) (hls : Stps w A ls) (hT : Tab w) :
    Calls Tryd.prog 3 #[.int .i64 n, .slice A len cap, .int .i64 i] w fun e W' => e = .returned (.bool true) ∧ Below w.heap.size w W' := by
  have hW := Lib.hid (works_any w hT)
  by_cases hbig : 300 < len
  · clear hls hT
    go_enter Tryd.func3, Tryd.ntmps3
    go_wp2_with (go_at_call 9; refine hW.out.mono ?_; rintro e w' ⟨rfl, hb⟩; have HB := Lib.hid hb; clear hb)
    go_ret
    exact ⟨rfl, HB.out⟩
  · have hd0 : decide ((300 : Int) < (len : Int)) = false := by simp; omega
    have hlen300 : len ≤ 300 := by omega
    by_cases hn : n < 0 ∨ 65536 < n
    · have H1 := Lib.hid (played_none n A len cap w hn hlen300)
      clear hls hT hbig
      by_cases hn0 : n < 0
      · have hd1 : decide ((5000 : Int) < n) = false := by simp; omega
        clear hn
        go_enter Tryd.func3, Tryd.ntmps3
        go_wp2_with (first
          | (go_at_call 10; refine H1.out.mono ?_; rintro e w' ⟨rfl, rfl⟩)
          | (go_at_call 9; refine hW.out.mono ?_; rintro e w' ⟨rfl, hb⟩; have HB := Lib.hid hb; clear hb))
        go_ret
        exact ⟨rfl, HB.out⟩
      · have hn1 : 65536 < n := by omega
        have hn2 : 0 ≤ n := by omega
        have hd1 : decide (n ≤ (65536 : Int)) = false := by simp; omega
        clear hn
        go_enter Tryd.func3, Tryd.ntmps3
        go_wp2_with (first
          | (go_at_call 10; refine H1.out.mono ?_; rintro e w' ⟨rfl, rfl⟩)
          | (go_at_call 9; refine hW.out.mono ?_; rintro e w' ⟨rfl, hb⟩; have HB := Lib.hid hb; clear hb))
        go_ret
        exact ⟨rfl, HB.out⟩
    · obtain ⟨n, rfl⟩ : ∃ m : Nat, n = m := ⟨n.toNat, by omega⟩
      have hn' : n ≤ 65536 := by omega
      by_cases h5 : 5000 < n
      · clear hls hT hn
        go_enter Tryd.func3, Tryd.ntmps3
        go_wp2_with (go_at_call 9; refine hW.out.mono ?_; rintro e w' ⟨rfl, hb⟩; have HB := Lib.hid hb; clear hb)
        go_ret
        exact ⟨rfl, HB.out⟩
      · have H1 := Lib.hid (played_some n A len cap ls w hn' hlen hlen300 hls hT)
        clear hls hT hn hlen
        have hd1 : decide ((5000 : Int) < (n : Int)) = false := by simp; omega
        go_enter Tryd.func3, Tryd.ntmps3
        go_wp2_with fail
        refine H1.out.mono ?_
        rintro e w1 ⟨p, q, rp, rq, rfl, h1⟩
        have H2 := Lib.hid (alike_pl h1)
        clear H1 h1 hW
        go_wp2_with fail
        refine H2.out.mono ?_
        rintro e w2 ⟨rfl, h2⟩
        have H3 := Lib.hid (bhas_pl (i := i) h2)
        clear H2 h2
        go_wp2_with fail
        refine H3.out.mono ?_
        rintro e w3 ⟨rfl, h3⟩
        have H4 := Lib.hid (rhas_pl (i := i) h3)
        have H5 := Lib.hid (works_pl h3)
        clear H3 h3
        generalize hasB (after n none_ ls) n i = v at *
        cases v
        all_goals
          go_wp2_with (first
            | (go_at_call 13; refine H4.out.mono ?_; rintro e w' ⟨rfl, rfl⟩)
            | (go_at_call 9; refine H5.out.mono ?_; rintro e w' ⟨rfl, hb⟩; have HB := Lib.hid hb.bel; clear hb))
          go_ret
          exact ⟨rfl, HB.out⟩

end Go.Proofs.YtfkhgdhfelfegaaDoor
