/- DiskImages: rows that may be turned; copies begin a pair. -/
import Derived.Test.YtdohfkblmadejaaIg
import Derived.Test.YtdohfkblmadejaaLb
namespace Go.Proofs.Ytdohfkblmadejaa
open Go.RowKit Dsk

/-- An image whose rows may be turned: block g has n rows, each in a block of its own behind g, or nothing. -/
structure RowsW (w : World) (g n : Nat) : Prop where
  ex : ∃ ls : Array Value, Blk w g 32 ls ∧ n ≤ ls.size ∧ ∀ k, k < n → ls[k]? = some (.slice none 0 0) ∨ ∃ h L, ls[k]? = some (.slice (some ⟨h, 0, none⟩) L L) ∧ g < h ∧ L ≤ 65536 ∧ Mut w h L
theorem RowsW.blank {w : World} {g n : Nat} (h : Blk w g 32 (madeCells #[.slice none 0 0] n)) : RowsW w g n :=
  ⟨_, h, by have := made_get (.slice none 0 0) n (n - 1); simp [madeCells], fun k hk => .inl (made_get _ n k hk)⟩
theorem RowsW.lt {w : World} {g n : Nat} (h : RowsW w g n) : g < w.heap.size := by obtain ⟨ls, h1, _⟩ := h.ex; exact h1.lt
theorem RowsW.below {w w' : World} {g n : Nat} (h : RowsW w g n) (hb : Below w.heap.size w w') : RowsW w' g n := by
  obtain ⟨ls, h1, h2, h3⟩ := h.ex
  refine ⟨ls, h1.below hb h1.lt, h2, fun k hk => (h3 k hk).imp id fun ⟨p, L, e, a, b, c⟩ => ⟨p, L, e, a, b, c.same hb.size (hb.block p c.lt)⟩⟩
theorem RowsW.step {w wr w3 : World} {n k L : Nat} {bs : List UInt8} (h : RowsW wr w.heap.size n) (hk : k < n) (hs : w.heap.size < wr.heap.size) (hL : bs.length = L) (hL2 : L ≤ 65536)
    (hB : Blk w3 wr.heap.size 5 (row8 bs)) (hg : ((wr.setCell ⟨w.heap.size, k, none⟩ (.slice (some ⟨wr.heap.size, 0, none⟩) L L)).alloc (.cells (mk8 L) 5)).grownBy w3 (some wr.heap.size)) : RowsW w3 w.heap.size n := by
  obtain ⟨ls, a, b, c⟩ := h.ex
  have far : ∀ j, j < wr.heap.size → j ≠ w.heap.size → w3.heap[j]? = wr.heap[j]? := fun j h1 h2 => (hg.block j (by simp [World.setCell]; omega) (fun e => by injection e with e; omega)).trans ((Below.heap_alloc _ _ _ (by simpa [World.setCell] using h1)).trans (Below.heap_setCell _ _ _ _ h2))
  have hsz : wr.heap.size + 1 ≤ w3.heap.size := by have := hg.size; simpa [World.setCell] using this
  refine ⟨ls.setIfInBounds k (.slice (some ⟨wr.heap.size, 0, none⟩) L L), ((a.set_ k _).alloc _).grown hg (fun e => by injection e with e; omega), by rw [Array.size_setIfInBounds]; exact b, fun j hj => ?_⟩
  by_cases e : j = k
  · subst e
    refine .inr ⟨wr.heap.size, L, by rw [Array.getElem?_setIfInBounds_self, if_pos (by omega)], hs, hL2, hB.lt, fun i hi => ?_, fun i _ => hB.frozen i⟩
    exact ⟨bs[i]'(by omega), by rw [hB.cell i]; exact row8_get i _ (List.getElem?_eq_getElem _)⟩
  · rw [Array.getElem?_setIfInBounds_ne (fun e' => e e'.symm)]
    exact (c j hj).imp id fun ⟨p, M, e1, q1, q2, q3⟩ => ⟨p, M, e1, q1, q2, q3.same (by omega) (far p q3.lt (by omega))⟩
theorem RowsW.set_ {w : World} {g n : Nat} (h : RowsW w g n) (p i : Nat) (hp : g < p) (c : UInt8) : RowsW (w.setCell ⟨p, i, none⟩ (bv c)) g n := by
  obtain ⟨ls, h1, h2, h3⟩ := h.ex
  refine ⟨ls, h1.far (p := ⟨p, i, none⟩) (by show g ≠ p; omega) _, h2, fun k hk => (h3 k hk).imp id fun ⟨q, L, e, a, b, m⟩ => ⟨q, L, e, a, b, ?_⟩⟩
  by_cases hq : q = p
  · subst hq; exact m.set_ i c
  · exact m.same (by simp [World.setCell]) (Below.heap_setCell _ _ _ _ hq)

set_option maxHeartbeats 1000000 in
theorem copied_rows (A : Option Addr) (n cap : Nat) (rows : List (List UInt8)) (w : World) (hn : rows.length = n) (hn2 : n ≤ 4096) (hA : Img w A rows) (hr : ∀ b ∈ rows, b.length ≤ 65536) :
    Calls Try.prog 44 #[.slice A n cap] w fun e w' => e = .returned (.slice (some ⟨w.heap.size, 0, none⟩) n n) ∧ (Secs w' (fun j => w.heap.size < j ∧ j < w'.heap.size) w.heap.size rows ∧ RowsW w' w.heap.size n) ∧ Below w.heap.size w w' := by
  have hmk := run_mkS n hn2
  have HN := Lib.hid hn
  have HA := Lib.hid hA
  have HR := Lib.hid hr
  have HST : Hid (CopR w rows 0 (w.alloc (.cells (madeCells #[.slice none 0 0] n) 32)) ∧ RowsW (w.alloc (.cells (madeCells #[.slice none 0 0] n) 32)) w.heap.size n) := Lib.hid ⟨⟨Secs.blank _ rows hn (Blk.new _ _ _), (Below.refl _ _).alloc (Nat.le_refl _) _, by simp⟩, RowsW.blank (Blk.new _ _ _)⟩
  clear hn hA hr
  go_enter Try.func44, Try.ntmps44
  go_wp2
  clear hmk
  go_loopw [4, 5, 11] (fun a b i wr => ∃ k : Nat, k ≤ n ∧ i = .int .i64 (k : Int) ∧ Hid (CopR w rows k wr ∧ RowsW wr w.heap.size n)) (fun _ _ i _ => n - (intOf i).toNat)
  case atStart => exact ⟨0, Nat.zero_le _, rfl, HST⟩
  case round =>
    obtain ⟨k, hk, rfl, hI⟩ := hrel
    clear HST
    by_cases hlt : k < n
    · have hd : decide ((k : Int) < (n : Int)) = true := by simpa using hlt
      obtain ⟨bs, hbs⟩ : ∃ bs, rows[k]? = some bs := ⟨_, List.getElem?_eq_getElem (by rw [HN.out]; exact hlt)⟩
      obtain ⟨b, off, v, rfl, hblt, hc, A2, c2, rfl, hl2, hm2, hby, _⟩ := HA.out k bs hbs
      have hc' := (hI.out.1.bel.cell (p := ⟨b, off + k, none⟩) hblt).trans hc
      have hle := HR.out bs (List.mem_of_getElem? hbs)
      obtain ⟨L, hL⟩ : ∃ L, bs.length = L := ⟨_, rfl⟩
      rw [hL] at hc' hle
      have HBS := Lib.hid hbs
      have HLL := Lib.hid hL
      clear hc
      by_cases h0 : 0 < L
      · have hd2 : decide ((0 : Int) < (L : Int)) = true := by simpa using h0
        have hmk := run_mk8 L (by omega)
        have cR : Blk ((wr.setCell ⟨w.heap.size, k, none⟩ (.slice (some ⟨wr.heap.size, 0, none⟩) L L)).alloc (.cells (mk8 L) 5)) wr.heap.size 5 (List.replicate L (bv 0)).toArray := by
          rw [← mk8_eq]; have := Blk.new (wr.setCell ⟨w.heap.size, k, none⟩ (.slice (some ⟨wr.heap.size, 0, none⟩) L L)) 5 (mk8 L); simpa [World.setCell] using this
        have hbA : Bytes ((wr.setCell ⟨w.heap.size, k, none⟩ (.slice (some ⟨wr.heap.size, 0, none⟩) L L)).alloc (.cells (mk8 L) 5)) A2 bs :=
          hby.below ((hI.out.1.bel.setCell (p := ⟨w.heap.size, k, none⟩) (Nat.le_refl _) _).alloc (by have := hI.out.1.size; simp [World.setCell]; omega) _)
        obtain ⟨w3, hcp, hR3, hg3, _⟩ := run_copy8 _ 3 wr.heap.size L L A2 c2 bs _ hbA cR (by omega) (by simp)
        rw [hL] at hcp
        simp only [goInt] at hcp
        have hR4 : Blk w3 wr.heap.size 5 (row8 bs) := by
          have e : bs.map bv ++ (List.replicate L (bv 0)).drop bs.length = bs.map bv := by rw [hL]; simp
          unfold row8; rw [← e]; exact hR3
        have HI2 := Lib.hid (And.intro (hI.out.1.step hbs hL hle hR4 hg3) (hI.out.2.step hlt hI.out.1.size hL hle hR4 hg3))
        obtain ⟨v0, hv0, _⟩ := hI.out.1.secs.at_ (k := k) (b := (part rows k)[k]'(by rw [part_length _ _ (by rw [HN.out]; omega), HN.out]; exact hlt)) (List.getElem?_eq_getElem _)
        have hv1 : (wr.alloc (.cells (mk8 L) 5)).cell? ⟨w.heap.size, k, none⟩ = some v0 := (World.cell?_of_block (a := ⟨w.heap.size, k, none⟩) (Below.heap_alloc _ _ _ hI.out.1.size)).trans hv0
        have hf1 : (wr.alloc (.cells (mk8 L) 5)).frozen? ⟨w.heap.size, k, none⟩ = false := (World.frozen?_of_block (a := ⟨w.heap.size, k, none⟩) (Below.heap_alloc _ _ _ hI.out.1.size)).trans (hI.out.1.secs.free k)
        have hsz := hI.out.1.size
        clear hR3 hR4 hg3 hbA cR hby hbs hL
        go_wp2
        go_roundw
        case rel => exact ⟨k + 1, by omega, by go_num, HI2⟩
        case measure => simp [intOf]; omega
      · obtain rfl : L = 0 := by omega
        have hbe : bs = [] := List.eq_nil_of_length_eq_zero hL
        have HI2 := Lib.hid (And.intro (hI.out.1.skip (by rw [← hbe]; exact hbs)) hI.out.2)
        clear hbs hL hbe hby hle
        go_wp2
        go_roundw
        case rel => exact ⟨k + 1, by omega, by go_num, HI2⟩
        case measure => simp [intOf]; omega
    · obtain rfl : k = n := by omega
      have hd : decide ((k : Int) < (k : Int)) = false := by simp
      have hs := hI.out.1.secs
      rw [← HN.out, part_full] at hs
      have HS := Lib.hid (And.intro hs hI.out.2)
      have HB := Lib.hid hI.out.1.bel
      clear hs
      go_wp2
      go_ret
      exact ⟨rfl, HS.out, HB.out⟩


theorem Run.imageW {w0 w : World} {X : Nat → Prop} {g : Nat} {D : DS} (h : Run w0 w X g D) :
    Calls Try.prog 19 #[.pointer (some ⟨g, 0, none⟩)] w fun e w' => e = .returned (.slice (some ⟨w.heap.size, 0, none⟩) D.S.length D.S.length) ∧ (Secs w' (fun j => w.heap.size < j ∧ j < w'.heap.size) w.heap.size D.S ∧ RowsW w' w.heap.size D.S.length) ∧ Below w.heap.size w w' := by
  obtain ⟨⟨F, ⟨E, gl, gi, rv, hk, _⟩, _⟩, _⟩ := h
  have H := Lib.hid (copied_rows (some ⟨gl, 0, none⟩) D.S.length D.S.length D.S w rfl hk.ok.hi hk.secs.img (fun b hb => by rcases hk.ok.sec b hb with rfl | h <;> simp_all))
  have c0 := hk.hd.c0
  generalize D.S.length = n at *
  clear hk
  go_enter Try.func19, Try.ntmps19
  go_wp2_with fail
  refine H.out.mono ?_
  rintro e w' ⟨rfl, hS, hb⟩
  have HS := Lib.hid hS
  have HB := Lib.hid hb
  clear hS hb
  go_wp2_with fail
  go_ret
  exact ⟨rfl, HS.out, HB.out⟩

theorem Ref.copy {w : World} {F : Nat → Prop} {r : Nat} {D : DS} (h : Ref w F r D) (hP : D.P.length < 1000000) :
    Calls Try.prog 24 #[.pointer (some ⟨r, 0, none⟩)] w fun e w' => ∃ x, e = .returned (.pointer (some ⟨x, 0, none⟩)) ∧ Ref w' (fun k => w.heap.size ≤ k ∧ k < w'.heap.size) x D ∧ Below w.heap.size w w' := by
  obtain ⟨E, gs, c, pv, hk, _⟩ := h
  obtain ⟨A, pc, rfl, _⟩ := hk.pend.shape
  exact rcopy_ok w r gs c _ _ pc A E D hk rfl rfl hP

/-- A disk and the reference's, each made in memory of its own, one behind the other. -/
theorem Pair.begin {wa wb wc : World} {g r : Nat} {D : DS} (h1 : Disk wb (fun k => wa.heap.size ≤ k ∧ k < wb.heap.size) g D) (hb1 : Below wa.heap.size wa wb)
    (h2 : Ref wc (fun k => wb.heap.size ≤ k ∧ k < wc.heap.size) r D) (hb2 : Below wb.heap.size wb wc) : Pair wa wc g r D := by
  have hs := hb1.size
  exact ⟨⟨_, ⟨⟨_, h1.below hb2, fun k hk => ⟨hk.1, fun e => by have := hk.2; have := e.1; omega⟩⟩, fun k hk => hk.2, hb1.trans (hb2.mono hs)⟩, h2, fun k hk => by have := hk.1; omega⟩⟩
theorem Pair.copyD {w wr : World} {g r : Nat} {D : DS} (h : Pair w wr g r D) (hP : D.P.length < 1000000) :
    Calls Try.prog 23 #[.pointer (some ⟨g, 0, none⟩)] wr fun e wb => ∃ c, e = .returned (.pointer (some ⟨c, 0, none⟩)) ∧ Below wr.heap.size wr wb ∧
      Calls Try.prog 24 #[.pointer (some ⟨r, 0, none⟩)] wb fun e wc => ∃ q, e = .returned (.pointer (some ⟨q, 0, none⟩)) ∧ Pair wr wc c q D ∧ Below wr.heap.size wr wc := by
  obtain ⟨F, h1, h2, h3⟩ := h.ex
  refine (h1.copy hP).mono ?_
  rintro e wb ⟨c, rfl, hD, hb⟩
  refine ⟨c, rfl, hb, ?_⟩
  refine ((h2.below hb).copy hP).mono ?_
  rintro e wc ⟨q, rfl, hR, hb2⟩
  exact ⟨q, rfl, Pair.begin hD hb hR hb2, hb.trans (hb2.mono hb.size)⟩
end Go.Proofs.Ytdohfkblmadejaa
