/- alike: a set and the reference's. -/
import Derived.Test.YtfkhgdhfelfegaaDoorR
namespace Go.Proofs.YtfkhgdhfelfegaaDoor
open Go.RowKit Bts

theorem quietL {P : Program} {f : FuncId} {args : Array Value} {w : World} {n : Nat} {v : Value} (h : Calls P f args (w.drewN n) fun e w' => e = .returned v ∧ w.drewN n = w') : Calls P f args (w.drewN n) fun e w'' => e = .returned v ∧ ∃ m, w'' = w.drewN m :=
  h.mono fun _ _ ⟨he, hm⟩ => ⟨he, n, hm.symm⟩
theorem below_drewN (w : World) (n : Nat) : Below w.heap.size w (w.drewN n) := ⟨rfl, rfl, rfl, Nat.le_refl _, fun _ _ => rfl⟩

/-- A set and the reference's beside it. -/
structure Two (p q rp rq n : Nat) (S : Nat → Bool) (w : World) : Prop where
  bs : Bs w p q n S
  rs : Rs w rp rq n S
  tab : Tab w
theorem Two.below {p q rp rq n : Nat} {S : Nat → Bool} {w w' : World} (h : Two p q rp rq n S w) (hb : Below w.heap.size w w') : Two p q rp rq n S w' := ⟨h.bs.below hb, h.rs.below hb, h.tab.below hb⟩

theorem Rs.head {w : World} {rp rq n : Nat} {S : Nat → Bool} (h : Rs w rp rq n S) : ∃ A c, w.cell? ⟨rp, 0, none⟩ = some (.slice A n c) := by
  obtain ⟨A, c, h1, _⟩ := h.mem
  exact ⟨A, c, h1⟩

/-- Two answers of Low that agree. -/
def LowPair (S : Nat → Bool) (n : Nat) (v : Value) (b : Bool) : Prop := (b = true ∧ ∃ k : Nat, v = .int .i64 (k : Int) ∧ IsLow S n k) ∨ (b = false ∧ v = .int .i64 0)

set_option maxRecDepth 20000 in
set_option maxHeartbeats 1000000 in
theorem alike_any (p q rp rq n : Nat) (S : Nat → Bool) (w : World) (h : Two p q rp rq n S w) :
    Calls Tryd.prog 11 #[.pointer (some ⟨p, 0, none⟩), .pointer (some ⟨rp, 0, none⟩)] w fun e w' => e = .returned (.bool true) ∧ Below w.heap.size w w' := by
  have hn := h.bs.top
  have H := Lib.hid h
  clear h
  go_enter Tryd.func11, Tryd.ntmps11
  go_wp2_with fail
  go_loopw [5] (fun i wr => ∃ k : Nat, k ≤ n + 2 ∧ i = .int .i64 ((k : Int) - 1) ∧ Hid (Below w.heap.size w wr)) (fun i _ => (n + 1 - intOf i).toNat)
  case atStart => exact ⟨0, Nat.zero_le _, rfl, Lib.hid (Below.refl _ _)⟩
  case round =>
    obtain ⟨k, hk, rfl, hb⟩ := hrel
    have h2 := H.out.below hb.out
    obtain ⟨A, c, hhd⟩ := h2.rs.head
    have hi : -1 ≤ (k : Int) - 1 ∧ (k : Int) - 1 ≤ n + 1 := by omega
    by_cases hlt : (k : Int) - 1 ≤ n
    · have hd : decide ((k : Int) - 1 ≤ (n : Int)) = true := by simpa using hlt
      have H1 := Lib.hid (has_any p q n ((k : Int) - 1) S wr h2.bs)
      have h2' : ∀ w' : World, Below wr.heap.size wr w' → Hid (Calls Tryd.prog 13 #[.pointer (some ⟨rp, 0, none⟩), .int .i64 ((k : Int) - 1)] w' fun e w'' => e = .returned (.bool (hasB S n ((k : Int) - 1))) ∧ w' = w'') :=
        fun w' hb' => Lib.hid (rhas_any rp rq n ((k : Int) - 1) S w' (h2.rs.below hb'))
      have H2 := Lib.hid h2'
      have hsz := hb.out.size
      clear h2 h2'
      obtain ⟨z, hz⟩ : ∃ z : Int, (k : Int) - 1 = z := ⟨_, rfl⟩
      have hzk : (k : Int) = z + 1 := by omega
      rw [hz] at H1 H2 hi hlt hd ⊢
      have HZ := Lib.hid hzk
      clear hz hzk
      generalize hasB S n z = v at *
      go_wp2_with fail
      refine H1.out.mono ?_
      rintro e w2 ⟨rfl, hw2⟩
      have hb2 : Hid (Below w.heap.size w w2) := by
        rcases hw2 with rfl | rfl
        · exact hb
        · exact Lib.hid hb.out.drew
      have H3 := H2.out w2 (by rcases hw2 with rfl | rfl
                               · exact Below.refl _ _
                               · exact (Below.refl _ _).drew)
      clear hw2 H1 H2
      cases v
      all_goals
        go_wp2_with fail
        refine H3.out.mono ?_
        rintro e w' ⟨rfl, rfl⟩
        go_wp2_with fail
        go_roundw
        case rel => exact ⟨k + 1, by have := HZ.out; omega, by have := HZ.out; go_num, hb2⟩
        case measure => simp [intOf]; omega
    · have hd : decide ((k : Int) - 1 ≤ (n : Int)) = false := by simpa using hlt
      have H1 := Lib.hid (low_any p q n S wr h2.bs h2.tab)
      have H2 := Lib.hid (rlow_any rp rq n S wr h2.rs)
      have hC1 : ∀ m, Calls Tryd.prog 21 #[.pointer (some ⟨p, 0, none⟩)] (wr.drewN m) fun e w' => e = .returned (.int .i64 (card S n : Int)) ∧ wr.drewN m = w' := fun m => count_any p q n S _ (h2.bs.below (below_drewN wr m))
      have hC2 : ∀ m, Calls Tryd.prog 26 #[.pointer (some ⟨rp, 0, none⟩)] (wr.drewN m) fun e w' => e = .returned (.int .i64 (card S n : Int)) ∧ wr.drewN m = w' := fun m => rcount_any rp rq n S _ (h2.rs.below (below_drewN wr m))
      have hC3 : ∀ m, Calls Tryd.prog 23 #[.pointer (some ⟨p, 0, none⟩)] (wr.drewN m) fun e w' => e = .returned (.int .i64 (n : Int)) ∧ wr.drewN m = w' := fun m => size_of _ p n (h2.bs.below (below_drewN wr m)).head
      have C1 := Lib.hid hC1
      have C2 := Lib.hid hC2
      have C3 := Lib.hid hC3
      generalize card S n = cd at *
      obtain ⟨z, hz⟩ : ∃ z : Int, (k : Int) - 1 = z := ⟨_, rfl⟩
      rw [hz] at hi hlt hd ⊢
      clear hC1 hC2 hC3 h2 hz
      go_wp2_with fail
      refine H1.out.mono ?_
      rintro e w' ⟨⟨x, hx, rfl⟩ | ⟨hx, rfl⟩, rfl⟩
      · have HX := Lib.hid hx
        clear H1 hx
        go_wp2_with fail
        refine H2.out.mono ?_
        rintro e w' ⟨⟨y, hy, rfl⟩ | ⟨hy, rfl⟩, rfl⟩
        · obtain rfl : x = y := HX.out.one hy
          clear hy H2
          go_wp2_with fail
          go_quiet ((first
            | (go_at_call 21; exact quietL (C1.out _))
            | (go_at_call 26; exact quietL (C2.out _))
            | (go_at_call 23; exact quietL (C3.out _))))
          go_wp2_with fail
          go_ret
          exact ⟨rfl, hb.out.trans ((below_drewN _ _).mono hb.out.size)⟩
        · exact absurd (hy x HX.out.1) (by rw [HX.out.2.1]; decide)
      · have HX := Lib.hid hx
        clear H1 hx
        go_wp2_with fail
        refine H2.out.mono ?_
        rintro e w' ⟨⟨y, hy, rfl⟩ | ⟨hy, rfl⟩, rfl⟩
        · exact absurd (HX.out y hy.1) (by rw [hy.2.1]; decide)
        · clear hy H2
          go_wp2_with fail
          go_quiet ((first
            | (go_at_call 21; exact quietL (C1.out _))
            | (go_at_call 26; exact quietL (C2.out _))
            | (go_at_call 23; exact quietL (C3.out _))))
          go_wp2_with fail
          go_ret
          exact ⟨rfl, hb.out.trans ((below_drewN _ _).mono hb.out.size)⟩

end Go.Proofs.YtfkhgdhfelfegaaDoor
