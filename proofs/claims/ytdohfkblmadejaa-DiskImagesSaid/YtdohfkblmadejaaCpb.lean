/- Copy of a disk, walked. -/
import Derived.Test.YtdohfkblmadejaaCpa
import Derived.Deep.RegionHeld3
import Derived.Deep.RegionLaw
namespace Go.Proofs.Ytdohfkblmadejaa
open Go.RowKit Dsk

/-- Behind the first statement. -/
structure CpB (w0 wr : World) (g gl gi n : Nat) (D : DS) : Prop where
  head : Blk wr g 74 #[.slice (some ⟨gl, 0, none⟩) n n, .slice none 0 0, .slice (some ⟨gi, 0, none⟩) n n, .bool D.dead, .int .i64 (D.armed : Int), .int .i64 (D.steps : Int)]
  secs : Secs wr (fun j => w0.heap.size ≤ j ∧ j < wr.heap.size ∧ j ≠ g ∧ j ≠ gl ∧ j ≠ gi) gl D.S
  row : Blk wr gi 3 (madeCells #[.int .i64 0] n)
  bel : Below w0.heap.size w0 wr
  lo : w0.heap.size ≤ g ∧ w0.heap.size ≤ gl ∧ w0.heap.size ≤ gi
  ne : g ≠ gl ∧ g ≠ gi ∧ gl ≠ gi

theorem CpB.one {w0 w w8 : World} {n : Nat} {D : DS} (hb0 : Below w0.heap.size w0 w) (hS : Secs w8 (fun j => w.heap.size < j ∧ j < w8.heap.size) w.heap.size D.S) (hb : Below w.heap.size w w8) :
    CpB w0 ((w8.alloc (.cells (madeCells #[.int .i64 0] n) 3)).alloc (.cells #[.slice (some ⟨w.heap.size, 0, none⟩) n n, .slice none 0 0, .slice (some ⟨w8.heap.size, 0, none⟩) n n, .bool D.dead, .int .i64 (D.armed : Int), .int .i64 (D.steps : Int)] 74))
      (w8.heap.size + 1) w.heap.size w8.heap.size n D := by
  have h2 := Blk.new w8 3 (madeCells #[.int .i64 0] n)
  have h3 := Blk.new (w8.alloc (.cells (madeCells #[.int .i64 0] n) 3)) 74 #[.slice (some ⟨w.heap.size, 0, none⟩) n n, .slice none 0 0, .slice (some ⟨w8.heap.size, 0, none⟩) n n, .bool D.dead, .int .i64 (D.armed : Int), .int .i64 (D.steps : Int)]
  simp only [World.size_alloc] at h3
  have hlt := hS.lt
  have s0 := hb0.size
  have s1 := hb.size
  have hbb : Below w8.heap.size w8 ((w8.alloc (.cells (madeCells #[.int .i64 0] n) 3)).alloc (.cells #[.slice (some ⟨w.heap.size, 0, none⟩) n n, .slice none 0 0, .slice (some ⟨w8.heap.size, 0, none⟩) n n, .bool D.dead, .int .i64 (D.armed : Int), .int .i64 (D.steps : Int)] 74)) :=
    ((Below.refl _ _).alloc (Nat.le_refl _) _).alloc (by simp) _
  refine ⟨h3, (hS.same hbb.size (fun j _ hj => hbb.block j hj) (hbb.block _ hlt)).mono fun j hj => ⟨by omega, by simp; omega, by omega, by omega, by omega⟩, h2.alloc _, (hb0.trans (hb.mono s0)).trans (hbb.mono (by omega)), ⟨by omega, by omega, by omega⟩, ⟨by omega, by omega, by omega⟩⟩

theorem CpB.two {w0 w w8 : World} {n : Nat} {D : DS} (hb0 : Below w0.heap.size w0 w) (hS : Secs w8 (fun j => w.heap.size + 1 < j ∧ j < w8.heap.size) (w.heap.size + 1) D.S) (hb : Below (w.heap.size + 1) (w.alloc (.cells (madeCells #[.int .i64 0] n) 3)).drew w8) :
    CpB w0 (w8.alloc (.cells #[.slice (some ⟨w.heap.size + 1, 0, none⟩) n n, .slice none 0 0, .slice (some ⟨w.heap.size, 0, none⟩) n n, .bool D.dead, .int .i64 (D.armed : Int), .int .i64 (D.steps : Int)] 74))
      w8.heap.size (w.heap.size + 1) w.heap.size n D := by
  have h2 := Blk.new w 3 (madeCells #[.int .i64 0] n)
  have h3 := Blk.new w8 74 #[.slice (some ⟨w.heap.size + 1, 0, none⟩) n n, .slice none 0 0, .slice (some ⟨w.heap.size, 0, none⟩) n n, .bool D.dead, .int .i64 (D.armed : Int), .int .i64 (D.steps : Int)]
  have hlt := hS.lt
  have s0 := hb0.size
  have hbb : Below w8.heap.size w8 (w8.alloc (.cells #[.slice (some ⟨w.heap.size + 1, 0, none⟩) n n, .slice none 0 0, .slice (some ⟨w.heap.size, 0, none⟩) n n, .bool D.dead, .int .i64 (D.armed : Int), .int .i64 (D.steps : Int)] 74)) :=
    (Below.refl _ _).alloc (Nat.le_refl _) _
  have hb1 : Below w.heap.size w w8 := ((Below.refl _ w).alloc (Nat.le_refl _) _).drew.trans (hb.mono (by omega))
  refine ⟨h3, (hS.same hbb.size (fun j _ hj => hbb.block j hj) (hbb.block _ hlt)).mono fun j hj => ⟨by omega, by simp; omega, by omega, by omega, by omega⟩, ?_, (hb0.trans (hb1.mono s0)).trans (hbb.mono (by omega)), ⟨by omega, by omega, by omega⟩, ⟨by omega, by omega, by omega⟩⟩
  exact Blk.alloc (Eq.trans (hb.block _ (by omega)) h2) _

theorem CpB.drew {w0 wr : World} {g gl gi n : Nat} {D : DS} (h : CpB w0 wr g gl gi n D) : CpB w0 wr.drew g gl gi n D := ⟨h.head.drew, h.secs.same (Nat.le_refl _) (fun _ _ _ => rfl) rfl, h.row.drew, h.bel.drew, h.lo, h.ne⟩

theorem CpB.take {w0 wr w9 : World} {g gl gi n : Nat} {D : DS} (h : CpB w0 wr g gl gi n D) (hn : D.S.length = n) (hL : Lasts w9 gi n D.P) (hg : wr.grownBy w9 (some gi)) (hz : w9.heap.size = wr.heap.size) : CpS w0 w9 g gl gi (.slice none 0 0) D 0 := by
  subst hn
  have far : ∀ j, j < wr.heap.size → j ≠ gi → w9.heap[j]? = wr.heap[j]? := fun j hj hn => hg.block j hj (fun e => by injection e with e; exact hn e)
  refine ⟨h.head.same (far g h.head.lt h.ne.2.1), (h.secs.same hg.size (fun j hj hl => far j hl hj.2.2.2.2) (far gl h.secs.lt h.ne.2.2)).mono fun j hj => ⟨hj.1, by rw [hz]; exact hj.2.1, hj.2.2.1, hj.2.2.2.1, hj.2.2.2.2, fun e => by cases e⟩,
    by rw [List.take_zero]; exact Pend.nil _ _ _, hL, h.bel.grown hg h.bel.size (fun j hj => by injection hj with hj; subst hj; exact h.lo.2.2), h.lo, h.ne, fun j hj => by cases hj⟩

set_option maxHeartbeats 1000000 in
theorem copy_ok (w : World) (g gl gi n m cP : Nat) (A : Option Addr) (E : Nat → Prop) (D : DS) (hk : Dk w E g gl gi (.slice A m cP) D) (hn : D.S.length = n) (hm : D.P.length = m) (hP : m < 1000000) :
    Calls Try.prog 23 #[.pointer (some ⟨g, 0, none⟩)] w fun e w' => ∃ c, e = .returned (.pointer (some ⟨c, 0, none⟩)) ∧ Disk w' (fun k => w.heap.size ≤ k ∧ k < w'.heap.size) c D ∧ Below w.heap.size w w' := by
  have hhi : n ≤ 4096 := by rw [← hn]; exact hk.ok.hi
  have hcp : ∀ W : World, Below w.heap.size w W → Calls Try.prog 44 #[.slice (some ⟨gl, 0, none⟩) n n] W fun e w' => e = .returned (.slice (some ⟨W.heap.size, 0, none⟩) n n) ∧ Secs w' (fun j => W.heap.size < j ∧ j < w'.heap.size) W.heap.size D.S ∧ Below W.heap.size W w' :=
    fun W hW => copied_any _ n n D.S W hn hhi (hk.secs.img.below hW) (fun b hb => by rcases hk.ok.sec b hb with rfl | h <;> simp_all)
  have hc : ∀ W : World, Below w.heap.size w W → W.cell? ⟨g, 0, none⟩ = some (.slice (some ⟨gl, 0, none⟩) n n) ∧ W.cell? ⟨g, 2, none⟩ = some (.slice (some ⟨gi, 0, none⟩) n n) ∧ W.cell? ⟨g, 3, none⟩ = some (.bool D.dead) ∧ W.cell? ⟨g, 4, none⟩ = some (.int .i64 (D.armed : Int)) ∧ W.cell? ⟨g, 5, none⟩ = some (.int .i64 (D.steps : Int)) := fun W hW => by
    have h := hk.head
    rw [hn] at h
    exact ⟨(hW.cell (p := ⟨g, 0, none⟩) h.lt).trans (h.cell 0), (hW.cell (p := ⟨g, 2, none⟩) h.lt).trans (h.cell 2), (hW.cell (p := ⟨g, 3, none⟩) h.lt).trans (h.cell 3), (hW.cell (p := ⟨g, 4, none⟩) h.lt).trans (h.cell 4), (hW.cell (p := ⟨g, 5, none⟩) h.lt).trans (h.cell 5)⟩
  have hmk := run_mkI n hhi
  have HK := Lib.hid hk
  have HN := Lib.hid hn
  have HM := Lib.hid hm
  have HP := Lib.hid hP
  have HCP := Lib.hid hcp
  have HC := Lib.hid hc
  clear hk hn hm hP hcp hc hhi
  go_enter Try.func23, Try.ntmps23
  go_upto_region 3 with fail
  go_cut [3] from 9 to 33 (fun s wx => ∃ G GL GI, s = .pointer (some ⟨G, 0, none⟩) ∧ Hid (CpB w wx G GL GI n D))
  case first =>
    go_region_held3 (fun W => W.cell? ⟨g, 0, none⟩ = some (.slice (some ⟨gl, 0, none⟩) n n) ∧ W.cell? ⟨g, 2, none⟩ = some (.slice (some ⟨gi, 0, none⟩) n n) ∧ W.cell? ⟨g, 3, none⟩ = some (.bool D.dead) ∧ W.cell? ⟨g, 4, none⟩ = some (.int .i64 (D.armed : Int)) ∧ W.cell? ⟨g, 5, none⟩ = some (.int .i64 (D.steps : Int)))
      (first | exact HC.out _ (Below.refl _ w).drew | exact HC.out _ (((Below.refl _ w).alloc (Nat.le_refl _) _).drew) | exact HC.out _ hw8 | exact HC.out _ (hw8.alloc hw8.size _) | exact HC.out _ ((hw8.alloc hw8.size _).alloc (by have := hw8.size; simp; omega) _))
      (first
        | (go_at_call 44; refine Calls.mono (HCP.out _ (Below.refl _ w).drew) ?_; rintro e w8 ⟨rfl, hS8, hb8⟩; have hw8 : Below w.heap.size w w8 := (Below.refl _ w).drew.trans hb8)
        | (go_at_call 44; refine Calls.mono (HCP.out _ (((Below.refl _ w).alloc (Nat.le_refl _) _).drew)) ?_; rintro e w8 ⟨rfl, hS8, hb8⟩; have hw8 : Below w.heap.size w w8 := (((Below.refl _ w).alloc (Nat.le_refl _) _).drew).trans (hb8.mono (by simp [World.drew]))))
    · have HCB := Lib.hid (CpB.one (n := n) (D := D) (Below.refl _ w).drew hS8 hb8)
      clear hS8 hb8 hw8
      go_wp2_with fail
      go_meet
      exact ⟨_, _, _, rfl, HCB⟩
    · have HCB := Lib.hid (CpB.two (n := n) (D := D) (Below.refl _ w) (by simpa using hS8) (by simpa using hb8))
      clear hS8 hb8 hw8
      go_wp2_with fail
      go_meet
      exact ⟨_, _, _, rfl, HCB⟩
  case rest =>
    obtain ⟨G, GL, GI, rfl, hB⟩ := hcut
    clear HCP HC hmk
    have hb := hB.out.bel.drew
    have hL0 : Lasts wc.drew gi n D.P := by
      have h := HK.out.last.same (hb.block gi HK.out.last.lt)
      rw [HN.out] at h; exact h
    obtain ⟨w9, hcp, hL9, hg9, hz9⟩ := run_copyI wc.drew 3 GI gi n D.P _ hL0 hB.out.row.drew (made_size _ _)
    have hS9 := hB.out.drew.take HN.out hL9 hg9 hz9
    have cG : wc.drew.cell? ⟨G, 2, none⟩ = some (.slice (some ⟨GI, 0, none⟩) n n) := hB.out.head.drew.cell 2
    have cg : wc.drew.cell? ⟨g, 2, none⟩ = some (.slice (some ⟨gi, 0, none⟩) n n) := by
      have h := (hb.cell (p := ⟨g, 2, none⟩) HK.out.head.lt).trans (HK.out.head.cell 2)
      rw [HN.out] at h; exact h
    have cG9 : w9.cell? ⟨G, 2, none⟩ = some (.slice (some ⟨GI, 0, none⟩) n n) := by
      have h := hS9.head.cell 2
      rw [HN.out] at h; exact h
    have hb9 := hS9.bel
    have cg9 : w9.cell? ⟨g, 2, none⟩ = some (.slice (some ⟨gi, 0, none⟩) n n) := by
      have h := (hb9.cell (p := ⟨g, 2, none⟩) HK.out.head.lt).trans (HK.out.head.cell 2)
      rw [HN.out] at h; exact h
    have cr9 : w9.cell? ⟨g, 1, none⟩ = some (.slice A m cP) := (hb9.cell (p := ⟨g, 1, none⟩) HK.out.head.lt).trans (HK.out.head.cell 1)
    have HS9 := Lib.hid hS9
    simp only [goInt] at hcp
    clear hb hL0 hL9 hg9 hz9 hS9 hb9 hB
    go_wp2_with fail
    go_region_held3 (fun W => W.cell? ⟨G, 2, none⟩ = some (.slice (some ⟨GI, 0, none⟩) n n) ∧ W.cell? ⟨g, 2, none⟩ = some (.slice (some ⟨gi, 0, none⟩) n n))
      (first | exact ⟨cG, cg⟩ | exact ⟨cG9, cg9⟩) (fail)
    clear cG cg cG9 cg9 hcp
    go_wp2_with fail
    clear cr9
    rename_i hHeld _ _
    clear hHeld
    go_loopw [5, 6, 48] (fun a b i wr => ∃ k : Nat, k ≤ m ∧ i = .int .i64 (k : Int) ∧ ∃ rv, Hid (CpS w wr G GL GI rv D k)) (fun _ _ i _ => m - (intOf i).toNat)
    case atStart => exact ⟨0, Nat.zero_le _, rfl, _, HS9⟩
    case round =>
      obtain ⟨k, hk, rfl, rv, hI⟩ := hrel
      clear HS9
      by_cases hlt : k < m
      · have hd : decide ((k : Int) < (m : Int)) = true := by simpa using hlt
        obtain ⟨⟨s, b⟩, hpk⟩ : ∃ p, D.P[k]? = some p := ⟨_, List.getElem?_eq_getElem (by rw [HM.out]; exact hlt)⟩
        have hbl := hI.out.bel
        have hpd := HK.out.pend.same hbl.size (fun j _ hj => hbl.block j hj) (fun j hj => hbl.block j (HK.out.pend.lt j hj))
        obtain ⟨r, cc, v, er, hr, q1, q2, hsec⟩ := hpd.at_ hpk
        injection er with er1 er2 er3
        subst er1
        obtain ⟨Av, cv, rfl, hv1, hv2, hby, _⟩ := hsec
        have hb6 : b.length = 256 := (HK.out.ok.pend (s, b) (List.mem_of_getElem? hpk)).2
        have q3 : wr.cell? ⟨r, k * 2 + 1, none⟩ = some (.slice Av 256 cv) := by rw [← hb6]; exact q2
        have hrk : k * 2 + 1 < 3000000 := by have := HP.out; omega
        have hmk : ∀ W : World, (Instr.makeSlice 32 (.int .i64 256) (.int .i64 256)).run Try.prog W = .ok (.slice (some ⟨W.heap.size, 0, none⟩) 256 256) (W.alloc (.cells (mk8 256) 5)) := fun W => run_mk8 256 (by decide) W
        have hGlt := hI.out.head.lt
        have hGb := hI.out.lo
        have hne := hI.out.ne
        have hrow := hI.out.row
        have hrl := hI.out.pend.lt
        have hLl := hI.out.secs.lt
        have hIl := hI.out.last.lt
        have h1 := hI.out.below (((Below.refl _ wr).alloc (Nat.le_refl _) (.cells #[.int .i64 (s : Int), .slice Av 256 cv] 76)).alloc (by simp) (.cells (mk8 256) 5))
        have cR : Blk ((wr.alloc (.cells #[.int .i64 (s : Int), .slice Av 256 cv] 76)).alloc (.cells (mk8 256) 5)) (wr.heap.size + 1) 5 (List.replicate 256 (bv 0)).toArray := by
          rw [← mk8_eq]; have := Blk.new (wr.alloc (.cells #[.int .i64 (s : Int), .slice Av 256 cv] 76)) 5 (mk8 256); simpa using this
        have cP : Blk ((wr.alloc (.cells #[.int .i64 (s : Int), .slice Av 256 cv] 76)).alloc (.cells (mk8 256) 5)) wr.heap.size 76 #[.int .i64 (s : Int), .slice Av 256 cv] := (Blk.new _ _ _).alloc _
        have hbA := hby.below (((Below.refl _ wr).alloc (Nat.le_refl _) (.cells #[.int .i64 (s : Int), .slice Av 256 cv] 76)).alloc (by simp) (.cells (mk8 256) 5))
        obtain ⟨w3, hcp, hR3, hg3, hz3⟩ := run_copy8 _ 3 (wr.heap.size + 1) 256 256 Av cv b _ hbA cR (by omega) (by rw [List.length_replicate]; exact Nat.le_refl _)
        rw [hb6] at hcp
        simp only [goInt] at hcp
        have hR4 : Blk w3 (wr.heap.size + 1) 5 (row8 b) := by
          have e : b.map bv ++ (List.replicate 256 (bv 0)).drop b.length = b.map bv := by rw [hb6, List.drop_eq_nil_of_le (by rw [List.length_replicate]; exact Nat.le_refl _), List.append_nil]
          unfold row8; rw [← e]; exact hR3
        have hz4 : w3.heap.size = wr.heap.size + 2 := by rw [hz3]; simp
        have hb3 : Below wr.heap.size wr w3 := (((Below.refl _ wr).alloc (Nat.le_refl _) (.cells #[.int .i64 (s : Int), .slice Av 256 cv] 76)).alloc (by simp) (.cells (mk8 256) 5)).grown hg3 (by simp; omega) (fun j hj => by injection hj with hj; omega)
        have cP3 : Blk w3 wr.heap.size 76 #[.int .i64 (s : Int), .slice Av 256 cv] := cP.grown hg3 (fun e => by injection e with e; omega)
        -- the row's new end
        have hbl4 : Below wr.heap.size wr (w3.alloc (.cells #[.int .i64 (s : Int), .slice (some ⟨wr.heap.size + 1, 0, none⟩) 256 256] 76)).drew := (hb3.alloc (by omega) _).drew
        have hS4 := hI.out.below hbl4
        have hR5 : Blk (w3.alloc (.cells #[.int .i64 (s : Int), .slice (some ⟨wr.heap.size + 1, 0, none⟩) 256 256] 76)).drew (wr.heap.size + 1) 5 (row8 b) := (hR4.alloc _).drew
        have hB5 : Blk (w3.alloc (.cells #[.int .i64 (s : Int), .slice (some ⟨wr.heap.size + 1, 0, none⟩) 256 256] 76)).drew w3.heap.size 76 #[.int .i64 (s : Int), .slice (some ⟨wr.heap.size + 1, 0, none⟩) 256 256] := (Blk.new _ _ _).drew
        have hz5 : (w3.alloc (.cells #[.int .i64 (s : Int), .slice (some ⟨wr.heap.size + 1, 0, none⟩) 256 256] 76)).drew.heap.size = wr.heap.size + 3 := by show (w3.alloc _).heap.size = _; rw [World.size_alloc, hz4]
        have hlb := hbl.size
        obtain ⟨v', w4, hrun, hp4, hg4, ho4⟩ := Pend.push (T := 72) hS4.pend (by kernel_rfl) (by kernel_rfl) (s, b) _ (Sec.of_blk hR5 (show CpE w G GL GI rv _ (wr.heap.size + 1) from ⟨by omega, by rw [hz5]; omega, by omega, by omega, by omega, fun e => by have := hrl _ e; omega⟩) (by rw [hb6]; decide) 256 hb6) w3.heap.size (hB5.cell 0) (hB5.cell 1) (fun j hj e => e.2.2.2.2.2 hj) (by rw [List.length_take]; have := HP.out; omega)
        have HI2 := Lib.hid (hS4.push hpk hp4 hg4 ho4)
        have ng : rv.ownBlock ≠ some G := fun e => (hrow G e).2.1 rfl
        have c1 : w3.cell? ⟨G, 1, none⟩ = some rv := (hb3.cell (p := ⟨G, 1, none⟩) hGlt).trans (hI.out.head.cell 1)
        have c2 : w3.cell? ⟨wr.heap.size, 0, none⟩ = some (.int .i64 (s : Int)) := cP3.cell 0
        have hB4 : Blk w4 G _ _ := hS4.head.grown hg4 (fun e => ng e.symm)
        have c4 := hB4.cell 1
        simp only [List.getElem?_toArray, List.getElem?_cons_zero, List.getElem?_cons_succ] at c4
        have f4 := hB4.frozen 1
        obtain ⟨A', c', ev, _, _⟩ := hp4.shape
        rw [show (D.P.take k ++ [(s, b)]).length = k + 1 by rw [List.length_append, List.length_take, HM.out, List.length_singleton]; omega] at ev
        subst ev
        have HRUN := Lib.hid hrun
        have c5 := Lib.cell?_alloc_some (.cells #[.int .i64 (s : Int), .slice (some ⟨wr.heap.size + 1, 0, none⟩) 256 256] 76) c1
        have c6 := Lib.cell?_alloc_some (.cells #[.int .i64 (s : Int), .slice (some ⟨wr.heap.size + 1, 0, none⟩) 256 256] 76) c2
        clear hpk hbl hpd hr q2 hv1 hv2 hby hb6 hGlt hGb hne hrow hrl hLl hIl h1 cR cP hbA hR3 hg3 hz3 hR4 hb3 cP3 hbl4 hS4 hR5 hB5 hz5 hlb hrun hp4 hg4 ho4 ng hB4 er2 er3
        go_wp2_with fail
        go_region_law (refine step_app rfl (.tmp 64) (.tmp 69) 72 rfl _ _ _ _ (by simp [Act.eval]) (by simp [Act.eval]) HRUN.out ?_)
        all_goals
          go_wp2_with fail
          go_roundw
          case rel => exact ⟨k + 1, by omega, by go_num, _, HI2⟩
          case measure => simp [intOf]; omega
      · obtain rfl : m = k := by omega
        have hd : decide ((m : Int) < (m : Int)) = false := by simp
        have HCP := hI
        rw [← HM.out] at HCP
        have HD := Lib.hid (HCP.out.disk HK.out.ok)
        have HB := Lib.hid hI.out.bel
        clear HCP
        go_wp2_with fail
        go_ret
        exact ⟨G, rfl, HD.out, HB.out⟩

end Go.Proofs.Ytdohfkblmadejaa
