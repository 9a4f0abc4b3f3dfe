/- pages: isPage, isPart, Get, Set, Clear. -/
import Derived.Test.YtcmaehilgeonjaaB
import Derived.IntWalk
namespace Go.Proofs.Ytcmaehilgeonjaa
open Go.RowKit Pgs

theorem isPage_any (p : Int) (w : World) : Calls Try.prog 34 #[.int .i64 p] w fun e w' => e = .returned (.bool (decide (0 ≤ p ∧ p < 1024))) ∧ w = w' := by
  obtain ⟨b1, h1⟩ : ∃ b, decide (0 ≤ p) = b := ⟨_, rfl⟩
  obtain ⟨b2, h2⟩ : ∃ b, decide (p < 1024) = b := ⟨_, rfl⟩
  have hr : decide (0 ≤ p ∧ p < 1024) = (b1 && b2) := by rw [← h1, ← h2, Bool.decide_and]
  rw [hr]
  clear hr
  cases b1 <;> cases b2
  all_goals
    go_enter Try.func34, Try.ntmps34
    go_wp2_with fail
    go_ret
    exact ⟨rfl, rfl⟩
theorem isPart_any (p : Int) (w : World) : Calls Try.prog 37 #[.int .i64 p] w fun e w' => e = .returned (.bool (decide (0 ≤ p ∧ p < 9))) ∧ w = w' := by
  obtain ⟨b1, h1⟩ : ∃ b, decide (0 ≤ p) = b := ⟨_, rfl⟩
  obtain ⟨b2, h2⟩ : ∃ b, decide (p < 9) = b := ⟨_, rfl⟩
  have hr : decide (0 ≤ p ∧ p < 9) = (b1 && b2) := by rw [← h1, ← h2, Bool.decide_and]
  rw [hr]
  clear hr
  cases b1 <;> cases b2
  all_goals
    go_enter Try.func37, Try.ntmps37
    go_wp2_with fail
    go_ret
    exact ⟨rfl, rfl⟩

set_option maxRecDepth 20000 in
set_option maxHeartbeats 1000000 in
theorem get_nil (p : Int) (w : World) : Calls Try.prog 17 #[.pointer none, .int .i64 p] w fun e w' => e = .returned (.tuple #[.int .i64 0, .bool false]) ∧ w = w' := by
  go_enter Try.func17, Try.ntmps17
  go_wp2_with fail
  go_ret2
  exact ⟨rfl, rfl⟩
set_option maxRecDepth 20000 in
set_option maxHeartbeats 1000000 in
theorem get_some (g : Nat) (L : List Nat) (p : Int) (w : World) (h : PM w g L) : Calls Try.prog 17 #[.pointer (some ⟨g, 0, none⟩), .int .i64 p] w fun e w' => e = .returned (.tuple #[.int .i64 (got L p : Int), .bool (decide (got L p ≠ 0))]) ∧ w = w' := by
  have H1 := Lib.hid (isPage_any p w)
  by_cases hp : 0 ≤ p ∧ p < 1024
  · rw [decide_eq_true hp] at H1
    obtain ⟨k, rfl⟩ : ∃ k : Nat, p = k := ⟨p.toNat, by omega⟩
    have hk : k < 1024 := by omega
    obtain ⟨x, hx⟩ : ∃ x, L[k]? = some x := ⟨_, List.getElem?_eq_getElem (by rw [h.ok.len]; omega)⟩
    have hx6 := h.ok.lt k x hx
    have hg : got L (k : Int) = x := by unfold got; rw [if_pos hp, Int.toNat_natCast, List.getD_eq_getElem?_getD, hx]; rfl
    have c0 := h.cell hx
    rw [hg]
    have hki : (k : Int) < 1116 := by omega
    clear hg hx hp
    by_cases hx0 : x = 0
    · subst hx0
      go_enter Try.func17, Try.ntmps17
      go_wp2_with (go_at_call 34; refine Calls.mono H1.out ?_; rintro e w' ⟨rfl, rfl⟩)
      go_ret2
      exact ⟨rfl, rfl⟩
    · have hxi : ((x : Int) == 0) = false := by simp; omega
      have hxd : decide (x ≠ 0) = true := by simpa using hx0
      rw [hxd]
      clear hx0 hxd
      go_enter Try.func17, Try.ntmps17
      go_wp2_with (go_at_call 34; refine Calls.mono H1.out ?_; rintro e w' ⟨rfl, rfl⟩)
      go_ret2
      exact ⟨rfl, rfl⟩
  · rw [decide_eq_false hp] at H1
    have hg : got L p = 0 := by unfold got; rw [if_neg hp]
    rw [hg]
    clear hg hp
    go_enter Try.func17, Try.ntmps17
    go_wp2_with (go_at_call 34; refine Calls.mono H1.out ?_; rintro e w' ⟨rfl, rfl⟩)
    go_ret2
    exact ⟨rfl, rfl⟩

set_option maxRecDepth 20000 in
set_option maxHeartbeats 1000000 in
theorem set_nil (p s : Int) (w : World) : Calls Try.prog 29 #[.pointer none, .int .i64 p, .int .i64 s] w fun e w' => e = .returned (.bool false) ∧ w = w' := by
  go_enter Try.func29, Try.ntmps29
  go_wp2_with fail
  go_ret
  exact ⟨rfl, rfl⟩
/-- What a step on a map at block g leaves. -/
def Stp (w w' : World) (g : Nat) (L : List Nat) : Prop := PM w' g L ∧ Off (fun k => k = g) w w'
set_option maxRecDepth 20000 in
set_option maxHeartbeats 1000000 in
theorem set_some (g : Nat) (L : List Nat) (p s : Int) (w : World) (h : PM w g L) : Calls Try.prog 29 #[.pointer (some ⟨g, 0, none⟩), .int .i64 p, .int .i64 s] w fun e w' => e = .returned (.bool (setB p s)) ∧ Stp w w' g (setL L p s) := by
  have H1 := Lib.hid (isPage_any p w)
  by_cases hp : 0 ≤ p ∧ p < 1024
  · rw [decide_eq_true hp] at H1
    by_cases hs : 1 ≤ s ∧ s ≤ 65535
    · have hb : setB p s = true := by unfold setB; simp [hp, hs]
      have hl : setL L p s = L.set p.toNat s.toNat := by unfold setL; rw [hb]; rfl
      rw [hb, hl]
      obtain ⟨k, rfl⟩ : ∃ k : Nat, p = k := ⟨p.toNat, by omega⟩
      obtain ⟨x, rfl⟩ : ∃ x : Nat, s = x := ⟨s.toNat, by omega⟩
      have hk : k < 1024 := by omega
      obtain ⟨y, hy⟩ : ∃ y, L[k]? = some y := ⟨_, List.getElem?_eq_getElem (by rw [h.ok.len]; omega)⟩
      have c0 := h.cell hy
      have f0 := h.blk.frozen k
      have hw : IntKind.u16.wrap (x : Int) = x := by rw [IntKind.wrap_u16]; omega
      have hki : (k : Int) < 1116 := by omega
      have HS : Hid (Stp w (w.setCell ⟨g, k, none⟩ (.int .u16 (x : Int))) g (L.set k x)) := Lib.hid ⟨h.set k x hk (by omega), Off.setc _ _ _ _⟩
      have hx1 : (1 : Int) ≤ (x : Int) := hs.1
      have hx2 : (x : Int) ≤ 65535 := hs.2
      clear h hb hl hy hp hs
      go_enter Try.func29, Try.ntmps29
      go_wp2_with (go_at_call 34; refine Calls.mono H1.out ?_; rintro e w' ⟨rfl, rfl⟩)
      go_ret
      exact ⟨rfl, HS.out⟩
    · have hb : setB p s = false := by unfold setB; simp [hs]
      have hl : setL L p s = L := by unfold setL; rw [hb]; rfl
      rw [hb, hl]
      have HS : Hid (Stp w w g L) := Lib.hid ⟨h, Off.refl _ _⟩
      by_cases h1 : s < 1
      · clear h hb hl hp hs
        go_enter Try.func29, Try.ntmps29
        go_wp2_with (go_at_call 34; refine Calls.mono H1.out ?_; rintro e w' ⟨rfl, rfl⟩)
        go_ret
        exact ⟨rfl, HS.out⟩
      · have h2 : (65535 : Int) < s := by omega
        clear h hb hl hp hs
        go_enter Try.func29, Try.ntmps29
        go_wp2_with (go_at_call 34; refine Calls.mono H1.out ?_; rintro e w' ⟨rfl, rfl⟩)
        go_ret
        exact ⟨rfl, HS.out⟩
  · rw [decide_eq_false hp] at H1
    have hb : setB p s = false := by unfold setB; rw [decide_eq_false hp]; rfl
    have hl : setL L p s = L := by unfold setL; rw [hb]; rfl
    rw [hb, hl]
    have HS : Hid (Stp w w g L) := Lib.hid ⟨h, Off.refl _ _⟩
    clear h hb hl hp
    go_enter Try.func29, Try.ntmps29
    go_wp2_with (go_at_call 34; refine Calls.mono H1.out ?_; rintro e w' ⟨rfl, rfl⟩)
    go_ret
    exact ⟨rfl, HS.out⟩

set_option maxRecDepth 20000 in
set_option maxHeartbeats 1000000 in
theorem clear_nil (p : Int) (w : World) : Calls Try.prog 30 #[.pointer none, .int .i64 p] w fun e w' => e = .returned (.bool false) ∧ w = w' := by
  have H1 := Lib.hid (get_nil p w)
  go_enter Try.func30, Try.ntmps30
  go_wp2_with (go_at_call 17; refine Calls.mono H1.out ?_; rintro e w' ⟨rfl, rfl⟩)
  go_ret
  exact ⟨rfl, rfl⟩
set_option maxRecDepth 20000 in
set_option maxHeartbeats 1000000 in
theorem clear_some (g : Nat) (L : List Nat) (p : Int) (w : World) (h : PM w g L) : Calls Try.prog 30 #[.pointer (some ⟨g, 0, none⟩), .int .i64 p] w fun e w' => e = .returned (.bool (clearB L p)) ∧ Stp w w' g (clearL L p) := by
  have h1 := get_some g L p w h
  by_cases hc : clearB L p = true
  · have hn : got L p ≠ 0 := by unfold clearB at hc; simpa using hc
    have hp : 0 ≤ p ∧ p < 1024 := by
      by_cases e : 0 ≤ p ∧ p < 1024
      · exact e
      · unfold got at hn; rw [if_neg e] at hn; exact absurd rfl hn
    have hl : clearL L p = L.set p.toNat 0 := by unfold clearL; rw [hc]; rfl
    rw [hc, hl]
    rw [show decide (got L p ≠ 0) = true from hc] at h1
    obtain ⟨gx, hgx⟩ : ∃ gx, got L p = gx := ⟨_, rfl⟩
    rw [hgx] at h1
    obtain ⟨k, rfl⟩ : ∃ k : Nat, p = k := ⟨p.toNat, by omega⟩
    have hk : k < 1024 := by omega
    obtain ⟨y, hy⟩ : ∃ y, L[k]? = some y := ⟨_, List.getElem?_eq_getElem (by rw [h.ok.len]; omega)⟩
    have c0 := h.cell hy
    have f0 := h.blk.frozen k
    have hki : (k : Int) < 1116 := by omega
    have HS : Hid (Stp w (w.setCell ⟨g, k, none⟩ (.int .u16 0)) g (L.set k 0)) := Lib.hid ⟨h.set k 0 hk (by decide), Off.setc _ _ _ _⟩
    have H1 := Lib.hid h1
    clear h hc hn hp hl hgx hy h1
    go_enter Try.func30, Try.ntmps30
    go_wp2_with (go_at_call 17; refine Calls.mono H1.out ?_; rintro e w' ⟨rfl, rfl⟩)
    go_ret
    exact ⟨rfl, HS.out⟩
  · have hc' : clearB L p = false := by simpa using hc
    have hl : clearL L p = L := by unfold clearL; rw [hc']; rfl
    rw [hc', hl]
    rw [show decide (got L p ≠ 0) = false from hc'] at h1
    obtain ⟨gx, hgx⟩ : ∃ gx, got L p = gx := ⟨_, rfl⟩
    rw [hgx] at h1
    have HS : Hid (Stp w w g L) := Lib.hid ⟨h, Off.refl _ _⟩
    have H1 := Lib.hid h1
    clear h hc hc' hl hgx h1
    go_enter Try.func30, Try.ntmps30
    go_wp2_with (go_at_call 17; refine Calls.mono H1.out ?_; rintro e w' ⟨rfl, rfl⟩)
    go_ret
    exact ⟨rfl, HS.out⟩
end Go.Proofs.Ytcmaehilgeonjaa
