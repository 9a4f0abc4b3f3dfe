/- The reference's maps: New, Copy, has, Get, Set, Clear. -/
import Derived.Test.YtcmaehilgeonjaaC
import Derived.Deep.WholeRow
namespace Go.Proofs.Ytcmaehilgeonjaa
open Go.RowKit Pgs

/-- The reference's map at block g. -/
structure PR (w : World) (g : Nat) (L : List Nat) : Prop where
  blk : Blk w g 56 (rowI (L.take 1024))
  ok : Ok L
theorem PR.below {w w' : World} {g : Nat} {L : List Nat} (h : PR w g L) (hb : Below w.heap.size w w') : PR w' g L := ⟨h.blk.below hb h.blk.lt, h.ok⟩
theorem PR.same {w w' : World} {g : Nat} {L : List Nat} (h : PR w g L) (hb : w'.heap[g]? = w.heap[g]?) : PR w' g L := ⟨h.blk.same hb, h.ok⟩
theorem PR.cell {w : World} {g : Nat} {L : List Nat} (h : PR w g L) {i x : Nat} (hx : L[i]? = some x) (hi : i < 1024) : w.cell? ⟨g, i, none⟩ = some (.int .i64 (x : Int)) := by
  rw [h.blk.cell i]
  exact rowI_get (by rw [List.getElem?_take_of_lt hi]; exact hx)
theorem PR.set {w : World} {g : Nat} {L : List Nat} (h : PR w g L) (i x : Nat) (hi : i < 1024) (hx : x < 65536) : PR (w.setCell ⟨g, i, none⟩ (.int .i64 (x : Int))) g (L.set i x) := by
  refine ⟨?_, h.ok.set i x hi hx⟩
  have := h.blk.set_ i (.int .i64 (x : Int))
  rw [rowI_set, ← List.take_set] at this
  exact this
def StR (w w' : World) (g : Nat) (L : List Nat) : Prop := PR w' g L ∧ Off (fun k => k = g) w w'

def none1 : List Nat := List.replicate 1024 0
theorem none1_is : none_.take 1024 = none1 := by unfold none_ none1; rw [List.take_replicate]; rfl
theorem builtR_new : Try.prog.built 56 [] = some (rowI none1) := by kernel_rfl
theorem infoR : (Try.prog.info? 56).map (fun i => (i.zero, i.size)) = some (some (.agg (rowI none1)), 1024) := by kernel_rfl

set_option maxRecDepth 20000 in
set_option maxHeartbeats 1000000 in
theorem rnew_any (w : World) : Calls Try.prog 12 #[] w fun e w' => e = .returned (.pointer (some ⟨w.heap.size, 0, none⟩)) ∧ PR w' w.heap.size none_ ∧ Below w.heap.size w w' := by
  have hb := builtR_new
  obtain ⟨Z, hZ⟩ : ∃ Z, rowI none1 = Z := ⟨_, rfl⟩
  rw [hZ] at hb
  have HP : Hid (PR (w.alloc (.cells Z 56)) w.heap.size none_) := Lib.hid ⟨by rw [none1_is, hZ]; exact Blk.new _ _ _, none_ok⟩
  have HB : Hid (Below w.heap.size w (w.alloc (.cells Z 56))) := Lib.hid ((Below.refl _ _).alloc (Nat.le_refl _) _)
  clear hZ
  go_enter Try.func12, Try.ntmps12
  go_wp2_with (refine wpList_build rfl 56 #[] rfl (by simp [hb]) ?_; simp only [List.map_toArray, List.map_nil, hb, Option.getD_some])
  go_ret
  exact ⟨rfl, HP.out, HB.out⟩

set_option maxRecDepth 20000 in
set_option maxHeartbeats 1000000 in
theorem rcopy_some (g : Nat) (L : List Nat) (w : World) (h : PR w g L) : Calls Try.prog 14 #[.pointer (some ⟨g, 0, none⟩)] w fun e w' => e = .returned (.pointer (some ⟨w.heap.size, 0, none⟩)) ∧ PR w' w.heap.size L ∧ Below w.heap.size w w' := by
  obtain ⟨Y, hY⟩ : ∃ Y, rowI none1 = Y := ⟨_, rfl⟩
  obtain ⟨hzero, hsz⟩ := zero_of_info infoR
  rw [hY] at hzero
  obtain ⟨Z, hZ⟩ : ∃ Z, rowI (L.take 1024) = Z := ⟨_, rfl⟩
  have hs : Z.size = 1024 := by rw [← hZ, rowI_size, List.length_take, h.ok.len]; rfl
  have hsY : Y.size = 1024 := by rw [← hY, rowI_size]; rfl
  have h1 : Z.all (·.oneCell') = true := by rw [← hZ]; exact rowI_one _
  have HG : Hid (w.heap[g]? = some (.cells Z 56 (0, 0))) := Lib.hid (by rw [← hZ]; exact h.blk)
  have HZ := Lib.hid hs
  have HSY := Lib.hid hsY
  have HSZ := Lib.hid hsz
  have H1 := Lib.hid h1
  have HP : Hid (PR (w.alloc (.cells Z 56)) w.heap.size L) := Lib.hid ⟨by rw [hZ]; exact Blk.new _ _ _, h.ok⟩
  have HB : Hid (Below w.heap.size w (w.alloc (.cells Z 56))) := Lib.hid ((Below.refl _ _).alloc (Nat.le_refl _) _)
  have HSET : Hid ((w.alloc (.cells Y 56)).setRow w.heap.size Z = w.alloc (.cells Z 56)) := Lib.hid (World.setRow_alloc_new w Y Z _)
  clear hY hZ hs hsY h1 h hsz
  go_enter Try.func14, Try.ntmps14
  go_wp2_with (first
    | (refine wpList_load_row rfl 56 (.tmp 7) rfl g rfl _ Z (0, 0) _ HG.out Try.underlying56 rfl (by rw [HZ.out]; exact HSZ.out) ?_)
    | (refine wpList_store_row rfl 56 (.tmp 3) (.tmp 8) rfl w.heap.size Z rfl rfl 56 Y (heap_alloc_last w _) (by rw [HZ.out]; exact HSZ.out) (by rw [HZ.out, HSY.out]) H1.out ?_; rw [HSET.out]))
  go_ret
  exact ⟨rfl, HP.out, HB.out⟩

set_option maxRecDepth 20000 in
set_option maxHeartbeats 1000000 in
theorem has_nil (p : Int) (w : World) : Calls Try.prog 35 #[.pointer none, .int .i64 p] w fun e w' => e = .returned (.bool false) ∧ w = w' := by
  go_enter Try.func35, Try.ntmps35
  go_wp2_with fail
  go_ret
  exact ⟨rfl, rfl⟩
set_option maxRecDepth 20000 in
set_option maxHeartbeats 1000000 in
theorem has_some (g : Nat) (L : List Nat) (p : Int) (w : World) (h : PR w g L) : Calls Try.prog 35 #[.pointer (some ⟨g, 0, none⟩), .int .i64 p] w fun e w' => e = .returned (.bool (decide (got L p ≠ 0))) ∧ w = w' := by
  by_cases hp : 0 ≤ p ∧ p < 1024
  · obtain ⟨k, rfl⟩ : ∃ k : Nat, p = k := ⟨p.toNat, by omega⟩
    have hk : k < 1024 := by omega
    obtain ⟨x, hx⟩ : ∃ x, L[k]? = some x := ⟨_, List.getElem?_eq_getElem (by rw [h.ok.len]; omega)⟩
    have hg : got L (k : Int) = x := by unfold got; rw [if_pos hp, Int.toNat_natCast, List.getD_eq_getElem?_getD, hx]; rfl
    have c0 := h.cell hx hk
    rw [hg]
    have hki : (k : Int) < 1024 := by omega
    obtain ⟨bx, hbx⟩ : ∃ bx, decide (0 < x) = bx := ⟨_, rfl⟩
    have hd : decide (x ≠ 0) = bx := by rw [← hbx, Bool.eq_iff_iff]; simp; omega
    rw [hd]
    clear hg hx hp h hd
    cases bx
    all_goals
      go_enter Try.func35, Try.ntmps35
      go_wp2_with fail
      go_ret
      exact ⟨rfl, rfl⟩
  · have hg : got L p = 0 := by unfold got; rw [if_neg hp]
    rw [hg]
    clear hg h
    by_cases h0 : 0 ≤ p
    · have h1 : ¬ (p < 1024) := by omega
      have h2 : decide (p < 1024) = false := by simpa using h1
      have h3 : decide (0 ≤ p) = true := by simpa using h0
      clear hp
      go_enter Try.func35, Try.ntmps35
      go_wp2_with fail
      go_ret
      exact ⟨rfl, rfl⟩
    · have h2 : decide (0 ≤ p) = false := by simpa using h0
      clear hp
      go_enter Try.func35, Try.ntmps35
      go_wp2_with fail
      go_ret
      exact ⟨rfl, rfl⟩

set_option maxRecDepth 20000 in
set_option maxHeartbeats 1000000 in
theorem rget_nil (p : Int) (w : World) : Calls Try.prog 18 #[.pointer none, .int .i64 p] w fun e w' => e = .returned (.tuple #[.int .i64 0, .bool false]) ∧ w = w' := by
  have H1 := Lib.hid (has_nil p w)
  go_enter Try.func18, Try.ntmps18
  go_wp2_with (go_at_call 35; refine Calls.mono H1.out ?_; rintro e w' ⟨rfl, rfl⟩)
  go_ret2
  exact ⟨rfl, rfl⟩
theorem got_in {L : List Nat} {p : Int} (h : got L p ≠ 0) : 0 ≤ p ∧ p < 1024 := by
  by_cases e : 0 ≤ p ∧ p < 1024
  · exact e
  · unfold got at h; rw [if_neg e] at h; exact absurd rfl h
set_option maxRecDepth 20000 in
set_option maxHeartbeats 1000000 in
theorem rget_some (g : Nat) (L : List Nat) (p : Int) (w : World) (h : PR w g L) : Calls Try.prog 18 #[.pointer (some ⟨g, 0, none⟩), .int .i64 p] w fun e w' => e = .returned (.tuple #[.int .i64 (got L p : Int), .bool (decide (got L p ≠ 0))]) ∧ w = w' := by
  have h1 := has_some g L p w h
  by_cases hn : got L p ≠ 0
  · rw [decide_eq_true hn] at h1 ⊢
    have hp := got_in hn
    obtain ⟨k, rfl⟩ : ∃ k : Nat, p = k := ⟨p.toNat, by omega⟩
    have hk : k < 1024 := by omega
    obtain ⟨x, hx⟩ : ∃ x, L[k]? = some x := ⟨_, List.getElem?_eq_getElem (by rw [h.ok.len]; omega)⟩
    have hg : got L (k : Int) = x := by unfold got; rw [if_pos hp, Int.toNat_natCast, List.getD_eq_getElem?_getD, hx]; rfl
    have c0 := h.cell hx hk
    rw [hg]
    have hki : (k : Int) < 1024 := by omega
    have H1 := Lib.hid h1
    clear hg hx hp h hn h1
    go_enter Try.func18, Try.ntmps18
    go_wp2_with (go_at_call 35; refine Calls.mono H1.out ?_; rintro e w' ⟨rfl, rfl⟩)
    go_ret2
    exact ⟨rfl, rfl⟩
  · rw [decide_eq_false hn] at h1 ⊢
    have hg : got L p = 0 := by omega
    rw [hg]
    have H1 := Lib.hid h1
    clear hg h hn h1
    go_enter Try.func18, Try.ntmps18
    go_wp2_with (go_at_call 35; refine Calls.mono H1.out ?_; rintro e w' ⟨rfl, rfl⟩)
    go_ret2
    exact ⟨rfl, rfl⟩
set_option maxRecDepth 20000 in
set_option maxHeartbeats 1000000 in
theorem rclear_some (g : Nat) (L : List Nat) (p : Int) (w : World) (h : PR w g L) : Calls Try.prog 32 #[.pointer (some ⟨g, 0, none⟩), .int .i64 p] w fun e w' => e = .returned (.bool (clearB L p)) ∧ StR w w' g (clearL L p) := by
  have h1 := has_some g L p w h
  by_cases hn : got L p ≠ 0
  · have hc : clearB L p = true := decide_eq_true hn
    have hl : clearL L p = L.set p.toNat 0 := by unfold clearL; rw [hc]; rfl
    rw [hc, hl]
    rw [decide_eq_true hn] at h1
    have hp := got_in hn
    obtain ⟨k, rfl⟩ : ∃ k : Nat, p = k := ⟨p.toNat, by omega⟩
    have hk : k < 1024 := by omega
    obtain ⟨x, hx⟩ : ∃ x, L[k]? = some x := ⟨_, List.getElem?_eq_getElem (by rw [h.ok.len]; omega)⟩
    have c0 := h.cell hx hk
    have f0 := h.blk.frozen k
    have hki : (k : Int) < 1024 := by omega
    have HS : Hid (StR w (w.setCell ⟨g, k, none⟩ (.int .i64 0)) g (L.set k 0)) := Lib.hid ⟨h.set k 0 hk (by decide), Off.setc _ _ _ _⟩
    have H1 := Lib.hid h1
    clear hx hp h hn h1 hc hl
    go_enter Try.func32, Try.ntmps32
    go_wp2_with (go_at_call 35; refine Calls.mono H1.out ?_; rintro e w' ⟨rfl, rfl⟩)
    go_ret
    exact ⟨rfl, HS.out⟩
  · have hc : clearB L p = false := decide_eq_false hn
    have hl : clearL L p = L := by unfold clearL; rw [hc]; rfl
    rw [hc, hl]
    rw [decide_eq_false hn] at h1
    have HS : Hid (StR w w g L) := Lib.hid ⟨h, Off.refl _ _⟩
    have H1 := Lib.hid h1
    clear h hn h1 hc hl
    go_enter Try.func32, Try.ntmps32
    go_wp2_with (go_at_call 35; refine Calls.mono H1.out ?_; rintro e w' ⟨rfl, rfl⟩)
    go_ret
    exact ⟨rfl, HS.out⟩
set_option maxRecDepth 20000 in
set_option maxHeartbeats 1000000 in
theorem rset_some (g : Nat) (L : List Nat) (p s : Int) (w : World) (h : PR w g L) : Calls Try.prog 31 #[.pointer (some ⟨g, 0, none⟩), .int .i64 p, .int .i64 s] w fun e w' => e = .returned (.bool (setB p s)) ∧ StR w w' g (setL L p s) := by
  by_cases hb : setB p s = true
  · have hl : setL L p s = L.set p.toNat s.toNat := by unfold setL; rw [hb]; rfl
    rw [hl]
    rw [hb]
    unfold setB at hb
    simp only [Bool.and_eq_true, decide_eq_true_eq] at hb
    obtain ⟨⟨hp0, hp1⟩, hs0, hs1⟩ := hb
    obtain ⟨k, rfl⟩ : ∃ k : Nat, p = k := ⟨p.toNat, by omega⟩
    obtain ⟨x, rfl⟩ : ∃ x : Nat, s = x := ⟨s.toNat, by omega⟩
    have hk : k < 1024 := by omega
    obtain ⟨y, hy⟩ : ∃ y, L[k]? = some y := ⟨_, List.getElem?_eq_getElem (by rw [h.ok.len]; omega)⟩
    have c0 := h.cell hy hk
    have f0 := h.blk.frozen k
    have HS : Hid (StR w (w.setCell ⟨g, k, none⟩ (.int .i64 (x : Int))) g (L.set k x)) := Lib.hid ⟨h.set k x hk (by omega), Off.setc _ _ _ _⟩
    clear hy h hl
    go_enter Try.func31, Try.ntmps31
    go_wp2_with fail
    go_ret
    exact ⟨rfl, HS.out⟩
  · have hb' : setB p s = false := by simpa using hb
    have hl : setL L p s = L := by unfold setL; rw [hb']; rfl
    rw [hl, hb']
    have HS : Hid (StR w w g L) := Lib.hid ⟨h, Off.refl _ _⟩
    have hor : p < 0 ∨ 1024 ≤ p ∨ s < 1 ∨ 65535 < s := by
      unfold setB at hb
      simp only [Bool.and_eq_true, decide_eq_true_eq] at hb
      omega
    clear h hb hb' hl
    by_cases q0 : p < 0
    · clear hor
      go_enter Try.func31, Try.ntmps31
      go_wp2_with fail
      go_ret
      exact ⟨rfl, HS.out⟩
    by_cases q1 : 1024 ≤ p
    · clear hor
      go_enter Try.func31, Try.ntmps31
      go_wp2_with fail
      go_ret
      exact ⟨rfl, HS.out⟩
    by_cases q2 : s < 1
    · clear hor
      go_enter Try.func31, Try.ntmps31
      go_wp2_with fail
      go_ret
      exact ⟨rfl, HS.out⟩
    · have q3 : (65535 : Int) < s := by omega
      clear hor
      go_enter Try.func31, Try.ntmps31
      go_wp2_with fail
      go_ret
      exact ⟨rfl, HS.out⟩
end Go.Proofs.Ytcmaehilgeonjaa
