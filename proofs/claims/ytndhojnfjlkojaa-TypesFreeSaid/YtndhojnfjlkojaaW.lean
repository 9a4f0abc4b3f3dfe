/- types: within. -/
import Derived.Test.YtndhojnfjlkojaaV
namespace Go.Proofs.Ytndhojnfjlkojaa
open Go.RowKit
set_option linter.unusedVariables false
set_option linter.unusedSimpArgs false
attribute [local go_sem] Oper.semAt_some
open Ty
theorem ent_within1 : Enters Try.prog 52 := enters_of Try.func52 (by kernel_rfl) rfl
/-- What within$1 captured. -/
structure Wn (B : Nat) (w : World) (g gu pu pn : Nat) (n : Int) : Prop where
  un : w.cell? ⟨gu, 0, none⟩ = some (.pointer (some ⟨g, 0, none⟩))
  lt : gu < B
  pu : Blk w pu 72 #[.pointer (some ⟨gu, 0, none⟩)]
  pn : Blk w pn 3 #[.int .i64 n]
theorem Wn.bel {B : Nat} {w w' : World} {g gu pu pn : Nat} {n : Int} (h : Wn B w g gu pu pn n) (hB : B ≤ w.heap.size) (hb : Below w.heap.size w w') : Wn B w' g gu pu pn n :=
  ⟨(hb.cell (p := ⟨gu, 0, none⟩) (Nat.lt_of_lt_of_le h.lt hB)).trans h.un, h.lt, h.pu.below hb h.pu.lt, h.pn.below hb h.pn.lt⟩
set_option maxRecDepth 20000 in
set_option maxHeartbeats 4000000 in
theorem within1_any {B : Nat} {g : Nat} {Ab : Option Addr} {cb N : Nat} {σ : Int → Option Ty} {S : Int → Ty} (hS : Slv N σ S) (m n : Int) (w : World) (h0 : 0 ≤ m) (h1 : m < (N : Int)) {gu pu pn : Nat} (hw : Wn B w g gu pu pn n) (hB : Bk B w g Ab cb N σ)
    (hap : ∀ (u : Ty) (A : Option Addr) (c : Nat) (W : World), σ m = some u → good N u → Tb B W u A c → Bk B W g Ab cb N σ → W.cell? ⟨gu, 0, none⟩ = some (.pointer (some ⟨g, 0, none⟩)) → Calls Try.prog 51 #[.pointer (some ⟨gu, 0, none⟩), .int .i64 n, u.val A c] W fun e w' => ∃ b, e = .returned (.bool b) ∧ (b = true ↔ n ∈ (u.sub S).nums) ∧ Below W.heap.size W w') :
    Calls Try.prog 52 #[.int .i64 m, .pointer (some ⟨pu, 0, none⟩), .pointer (some ⟨pn, 0, none⟩)] w fun e w' => ∃ b, e = .returned (.bool b) ∧ (b = true ↔ n ∉ (S m).nums) ∧ Below w.heap.size w w' := by
  obtain ⟨x, rfl⟩ : ∃ x : Nat, m = (x : Int) := ⟨m.toNat, by omega⟩
  have hxN : x < N := by omega
  have p0 := hw.pu.cell 0
  have n0 := hw.pn.cell 0
  have u0 := hw.un
  have b0 := hB.hd
  simp only [List.getElem?_toArray, List.getElem?_cons_zero, List.getElem?_cons_succ] at p0 n0
  obtain ⟨bb, pv, rfl, hbb, b1, hcase⟩ := hB.at_ x hxN
  rcases hcase with ⟨hs, rfl⟩ | ⟨t2, p, A2, c2, hs, rfl, hpB, hBp, hAt2, hok2, hl2, hm2⟩
  · have HX : Hid (S (x : Int) = tvar (x : Int)) := Lib.hid (hS.free _ hs)
    clear hB hap hs hbb hw h0 h1 hS
    go_enter Try.func52, Try.ntmps52
    go_wp2_with fail
    go_ret
    refine ⟨_, rfl, ?_, Below.refl _ _⟩
    rw [HX.out, nums_tvar, List.mem_singleton]
    simp
    omega
  · have hdm := hS.dom (x : Int) t2 hs
    have HC := hap t2 A2 c2 w.drew hs hdm.2.2.1 ((show Tb B w t2 A2 c2 from ⟨hAt2, hl2, hm2, hok2⟩).bel ((Below.refl _ _).drew)) (hB.bel ((Below.refl _ _).drew)) hw.un
    rw [← hdm.2.2.2.1] at HC
    obtain ⟨l2, hl2e⟩ : ∃ l2, t2.ks.length = l2 := ⟨_, rfl⟩
    unfold Ty.val at HC
    rw [hl2e] at HC
    replace HC := Lib.hid HC
    have c0 := hBp.cell 0
    have c1 := hBp.cell 1
    have cc2 := hBp.cell 2
    have c3 := hBp.cell 3
    simp only [List.getElem?_toArray, List.getElem?_cons_zero, List.getElem?_cons_succ] at c0 c1 cc2 c3
    rw [hl2e] at c3
    have HBB := Lib.hid hB
    clear hB hap hs hbb hw h0 h1 hdm hpB hBp hAt2 hok2 hl2 hm2 hl2e hS
    go_enter Try.func52, Try.ntmps52
    go_upto_region 3 with fail
    go_region_with (go_at_call 51; refine HC.out.mono ?_; rintro e w7 ⟨b, rfl, hbi, hb7⟩; have HR := Lib.hid (And.intro hbi hb7); clear hbi hb7)
    all_goals go_wp2_with fail
    all_goals go_ret
    all_goals (refine ⟨!b, rfl, ?_, (show Below w.heap.size w w7 from (Below.refl _ w).drew.trans HR.out.2)⟩; have h1 := HR.out.1; cases b <;> simp_all)
set_option maxRecDepth 20000 in
set_option maxHeartbeats 4000000 in
theorem within_any {B : Nat} {g : Nat} {Ab : Option Addr} {cb N : Nat} {σ : Int → Option Ty} {S : Int → Ty} (hS : Slv N σ S) (n : Int) {gu : Nat} : ∀ (M : Nat) (t : Ty) (A : Option Addr) (c : Nat) (w : World), meas N S t < M → good N t → Tb B w t A c → Bk B w g Ab cb N σ → gu < B → w.cell? ⟨gu, 0, none⟩ = some (.pointer (some ⟨g, 0, none⟩)) →
    Calls Try.prog 51 #[.pointer (some ⟨gu, 0, none⟩), .int .i64 n, t.val A c] w fun e w' => ∃ b, e = .returned (.bool b) ∧ (b = true ↔ n ∈ (t.sub S).nums) ∧ Below w.heap.size w w' := by
  intro M
  induction M with
  | zero => intro t A c w h; omega
  | succ M ih =>
  intro t A c w hM hg hT hB hgu hun
  obtain ⟨tl, htl⟩ : ∃ tl, t.ks.length = tl := ⟨_, rfl⟩
  obtain ⟨w0, hw0⟩ : ∃ w0, ((w.alloc (.cells #[.pointer (some ⟨gu, 0, none⟩)] 72)).alloc (.cells #[.int .i64 n] 3)).alloc (.cells #[.int .u8 (t.k : Int), .string (str t.nm), .int .i64 t.n, .slice A tl c] 24) = w0 := ⟨_, rfl⟩
  have hb0 : Below w.heap.size w w0 := by rw [← hw0]; exact (((Below.refl _ _).alloc (Nat.le_refl _) _).alloc (by simp) _).alloc (by simp; omega) _
  have hP0 : Blk w0 w.heap.size 72 #[.pointer (some ⟨gu, 0, none⟩)] := by rw [← hw0]; exact ((Blk.new _ _ _).alloc _).alloc _
  have hN0 : Blk w0 (w.heap.size + 1) 3 #[.int .i64 n] := by
    have := (Blk.new (w.alloc (.cells #[.pointer (some ⟨gu, 0, none⟩)] 72)) 3 #[.int .i64 n]).alloc (.cells #[.int .u8 (t.k : Int), .string (str t.nm), .int .i64 t.n, .slice A tl c] 24)
    rw [World.size_alloc] at this
    rw [← hw0]; exact this
  have hT0 : Blk w0 (w.heap.size + 1 + 1) 24 #[.int .u8 (t.k : Int), .string (str t.nm), .int .i64 t.n, .slice A tl c] := by
    have := Blk.new ((w.alloc (.cells #[.pointer (some ⟨gu, 0, none⟩)] 72)).alloc (.cells #[.int .i64 n] 3)) 24 #[.int .u8 (t.k : Int), .string (str t.nm), .int .i64 t.n, .slice A tl c]
    rw [World.size_alloc, World.size_alloc] at this
    rw [← hw0]; exact this
  have hbB := hb0.mono hB.Bs
  have hTT := hT.bel hbB
  have hBB := hB.bel hbB
  have hW0 : Wn B w0 g gu w.heap.size (w.heap.size + 1) n := ⟨(hbB.cell (p := ⟨gu, 0, none⟩) hgu).trans hun, hgu, hP0, hN0⟩
  have HC := each_any (F := fun b => b < B) 52 ent_within1 #[.pointer (some ⟨w.heap.size, 0, none⟩), .pointer (some ⟨w.heap.size + 1, 0, none⟩)]
    (fun d W => Below w0.heap.size w0 W ∧ ∀ m ∈ d, n ∉ (S m).nums) (fun W => Below w0.heap.size w0 W ∧ ∃ m ∈ t.nums, n ∈ (S m).nums) (fun m => m ∈ t.nums)
    (fun d W W' h hb => ⟨h.1.trans (hb.mono h.1.size), h.2⟩)
    (fun m d W hm h => (show Calls Try.prog 52 #[.int .i64 m, .pointer (some ⟨w.heap.size, 0, none⟩), .pointer (some ⟨w.heap.size + 1, 0, none⟩)] W _ from within1_any hS m n W (nums_nonneg t hg.1 m hm) (hg.2 m hm) (hW0.bel hBB.Bs h.1) (hBB.bel (h.1.mono hBB.Bs)) fun u A' c' W' hs hgu2 hTu hBu hcu => ih u A' c' W' (by
      have h1 := meas_bound hS hs
      have h2 := meas_num (S := S) hg hm
      omega) hgu2 hTu hBu hgu hcu).mono (fun e W' h2 => by
        obtain ⟨b, rfl, hbi, hb⟩ := h2
        refine ⟨b, rfl, Off.of_new hb _, fun hd => ⟨h.1.trans (hb.mono h.1.size), fun q hq => ?_⟩, fun hd => ⟨h.1.trans (hb.mono h.1.size), m, hm, ?_⟩⟩
        · rcases List.mem_append.1 hq with hq | hq
          · exact h.2 q hq
          · rw [List.mem_singleton.1 hq]; exact hbi.1 hd
        · refine Decidable.of_not_not fun hn => ?_
          rw [hbi.2 hn] at hd
          cases hd)) t A c [] w0 hTT.at_ hTT.len hTT.cap (fun m hm => hm) ⟨Below.refl _ _, fun m hm => by cases hm⟩
  have d0 := hT0.cell 0
  have d1 := hT0.cell 1
  have d2 := hT0.cell 2
  have d3 := hT0.cell 3
  simp only [List.getElem?_toArray, List.getElem?_cons_zero, List.getElem?_cons_succ] at d0 d1 d2 d3
  have HNS : Hid (∀ _q : Nat, n ∈ (t.sub S).nums ↔ ∃ m ∈ t.nums, n ∈ (S m).nums) := Lib.hid fun _ => nums_sub S t n
  unfold Ty.val at HC ⊢
  rw [htl] at HC ⊢
  replace HC := Lib.hid HC
  have HB0 := Lib.hid hb0
  have hmf := hmf17
  clear hb0 hP0 hN0 hT0 hbB hTT hBB hW0 hS ih hM hg hT hB hgu hun htl
  go_enter Try.func51, Try.ntmps51
  go_upto_region 1 with fail
  (try rw [hw0])
  clear hw0
  go_wp2_with fail
  refine HC.out.mono ?_
  rintro e w7 ⟨b, rfl, _, h1, h2⟩
  have HR := Lib.hid (And.intro h1 h2)
  clear h1 h2 HC hmf d0 d1 d2 d3
  go_wp2_with fail
  go_ret
  cases b with
  | true => exact ⟨false, rfl, ⟨fun h => (by cases h), fun h => by
      obtain ⟨m, hm, h3⟩ := (HNS.out 0).1 h
      exact absurd h3 ((HR.out.1 rfl).2 m (by simpa using hm))⟩, HB0.out.trans ((HR.out.1 rfl).1.mono HB0.out.size)⟩
  | false => exact ⟨true, rfl, ⟨fun _ => (HNS.out 0).2 (HR.out.2 rfl).2, fun _ => rfl⟩, HB0.out.trans ((HR.out.2 rfl).1.mono HB0.out.size)⟩
end Go.Proofs.Ytndhojnfjlkojaa
