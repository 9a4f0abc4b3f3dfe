/- Images: rows of bytes, copied and compared. -/
import Derived.Test.YtiemfhncadcemaaSettle
import Derived.Deep.RegionWith
import Derived.StillTailTactics
namespace Go.Proofs.Ytiemfhncadcemaa
open Go.RowKit Dsk

/-- What a value of type [][]byte reads as. -/
def Img (w : World) (A : Option Addr) (rows : List (List UInt8)) : Prop :=
  ∀ (r : Nat) (bs : List UInt8), rows[r]? = some bs → ∃ b off v, A = some ⟨b, off, none⟩ ∧ b < w.heap.size ∧ w.cell? ⟨b, off + r, none⟩ = some v ∧ Sec w (fun _ => True) v bs
theorem Img.below {w w' : World} {A : Option Addr} {rows : List (List UInt8)} (h : Img w A rows) (hb : Below w.heap.size w w') : Img w' A rows := fun r bs hr => by
  obtain ⟨b, off, v, e, hlt, hc, A', c, h1, h2, h3, h4, h5⟩ := h r bs hr
  exact ⟨b, off, v, e, Nat.lt_of_lt_of_le hlt hb.size, (hb.cell (p := ⟨b, off + r, none⟩) hlt).trans hc, A', c, h1, h2, h3, h4.below hb, h5⟩
theorem Secs.img {w : World} {E : Nat → Prop} {g : Nat} {S : List (List UInt8)} (h : Secs w E g S) : Img w (some ⟨g, 0, none⟩) S := fun r bs hr => by
  obtain ⟨v, hv, hs⟩ := h.at_ hr
  exact ⟨g, 0, v, rfl, h.lt, by rw [Nat.zero_add]; exact hv, hs.mono fun _ _ => trivial⟩

/-- k of the rows copied. -/
def part (rows : List (List UInt8)) (k : Nat) : List (List UInt8) := rows.take k ++ List.replicate (rows.length - k) []
theorem part_length (rows : List (List UInt8)) (k : Nat) (h : k ≤ rows.length) : (part rows k).length = rows.length := by simp [part]; omega
theorem part_step (rows : List (List UInt8)) (k : Nat) (bs : List UInt8) (h : rows[k]? = some bs) : (part rows k).set k bs = part rows (k + 1) := by
  obtain ⟨hk, e⟩ := List.getElem?_eq_some_iff.1 h
  unfold part
  rw [List.set_append_right _ _ (by rw [List.length_take]; omega), List.length_take, Nat.min_eq_left (by omega), Nat.sub_self]
  obtain ⟨m, hm⟩ : ∃ m, rows.length - k = m + 1 := ⟨rows.length - k - 1, by omega⟩
  rw [hm, show rows.length - (k + 1) = m by omega, List.replicate_succ, List.set_cons_zero, List.take_succ_eq_append_getElem hk, e]
  simp
theorem part_same (rows : List (List UInt8)) (k : Nat) (h : rows[k]? = some []) : part rows k = part rows (k + 1) := by
  rw [← part_step rows k [] h]
  have hk := (List.getElem?_eq_some_iff.1 h).1
  apply List.ext_getElem?
  intro i
  by_cases e : i = k
  · subst e
    rw [List.getElem?_set_self (by rw [part_length _ _ (by omega)]; exact hk)]
    unfold part
    rw [List.getElem?_append_right (by rw [List.length_take]; omega), List.length_take, Nat.min_eq_left (by omega), Nat.sub_self, List.getElem?_replicate, if_pos (by omega)]
  · rw [List.getElem?_set_ne (fun e' => e e'.symm)]
theorem part_full (rows : List (List UInt8)) : part rows rows.length = rows := by simp [part]

theorem Secs.blank {w : World} {g n : Nat} (E : Nat → Prop) (rows : List (List UInt8)) (hn : rows.length = n) (h : Blk w g 33 (madeCells #[.slice none 0 0] n)) : Secs w E g (part rows 0) :=
  ⟨_, h, by rw [made_size, part_length _ _ (Nat.zero_le _), hn]; exact Nat.le_refl _, fun k b hb => by
    have hk := (List.getElem?_eq_some_iff.1 hb).1
    rw [part_length _ _ (Nat.zero_le _), hn] at hk
    have : b = [] := by
      have := List.mem_of_getElem? hb
      simp [part] at this
      exact this.2
    exact ⟨_, made_get _ n k hk, this ▸ Sec.nil _ _⟩⟩

/-- Between the rounds of copied. -/
structure CopR (w : World) (rows : List (List UInt8)) (k : Nat) (wr : World) : Prop where
  secs : Secs wr (fun j => w.heap.size < j ∧ j < wr.heap.size) w.heap.size (part rows k)
  bel : Below w.heap.size w wr
  size : w.heap.size < wr.heap.size

/-- A row copied: the row's new block, the store, the copy. -/
theorem CopR.step {w wr w3 : World} {rows : List (List UInt8)} {k L : Nat} {bs : List UInt8} (h : CopR w rows k wr) (hk : rows[k]? = some bs) (hL : bs.length = L) (hL2 : L ≤ 65536)
    (hB : Blk w3 wr.heap.size 5 (row8 bs)) (hg : ((wr.setCell ⟨w.heap.size, k, none⟩ (.slice (some ⟨wr.heap.size, 0, none⟩) L L)).alloc (.cells (mk8 L) 5)).grownBy w3 (some wr.heap.size)) : CopR w rows (k + 1) w3 := by
  have hs := h.size
  obtain ⟨ls, a, b, c⟩ := h.secs.blk
  have far : ∀ j, j < wr.heap.size → j ≠ w.heap.size → w3.heap[j]? = wr.heap[j]? := fun j h1 h2 => (hg.block j (by simp [World.setCell]; omega) (fun e => by injection e with e; omega)).trans ((Below.heap_alloc _ _ _ (by simpa [World.setCell] using h1)).trans (Below.heap_setCell _ _ _ _ h2))
  have hsz : wr.heap.size + 1 ≤ w3.heap.size := by have := hg.size; simpa [World.setCell] using this
  refine ⟨⟨ls.setIfInBounds k (.slice (some ⟨wr.heap.size, 0, none⟩) L L), ?_, ?_, fun j b' hb' => ?_⟩, ⟨hg.os.trans h.bel.os, hg.tape.trans h.bel.tape, hg.output.trans h.bel.output, ?_, fun j hj => ?_⟩, ?_⟩
  · exact ((a.set_ k _).alloc _).grown hg (fun e => by injection e with e; omega)
  · have b' := b
    rw [part_length _ _ (Nat.le_of_lt (List.getElem?_eq_some_iff.1 hk).1)] at b'
    rw [Array.size_setIfInBounds, part_length _ _ (List.getElem?_eq_some_iff.1 hk).1]; exact b'
  · rw [← part_step rows k bs hk] at hb'
    by_cases e : j = k
    · subst e
      have hj : j < (part rows j).length := by simpa using (List.getElem?_eq_some_iff.1 hb').1
      rw [List.getElem?_set_self hj] at hb'
      cases hb'
      exact ⟨_, by rw [Array.getElem?_setIfInBounds_self, if_pos (by omega)], Sec.of_blk hB ⟨hs, hB.lt⟩ (by unfold maxLen; omega) L hL⟩
    · rw [List.getElem?_set_ne (fun e' => e e'.symm)] at hb'
      obtain ⟨u, e1, A', c', q1, q2, q3, q4, q5⟩ := c j b' hb'
      refine ⟨u, by rw [Array.getElem?_setIfInBounds_ne (fun e' => e e'.symm)]; exact e1, A', c', q1, q2, q3, fun i x hi => ?_, fun p ep => ⟨(q5 p ep).1, by have := (q5 p ep).2; omega⟩⟩
      obtain ⟨p, off, ep, hp, hc⟩ := q4 i x hi
      have hpl : w.heap.size < p ∧ p < wr.heap.size := q5 ⟨p, off, none⟩ ep
      exact ⟨p, off, ep, by omega, (World.cell?_of_block (a := ⟨p, off + i, none⟩) (far p hpl.2 (by omega))).trans hc⟩
  · exact Nat.le_trans h.bel.size (by omega)
  · exact (far j (by omega) (by omega)).trans (h.bel.block j hj)
  · omega

theorem CopR.skip {w wr : World} {rows : List (List UInt8)} {k : Nat} (h : CopR w rows k wr) (hk : rows[k]? = some []) : CopR w rows (k + 1) wr := ⟨by rw [← part_same rows k hk]; exact h.secs, h.bel, h.size⟩

set_option maxHeartbeats 1000000 in
theorem copied_any (A : Option Addr) (n cap : Nat) (rows : List (List UInt8)) (w : World) (hn : rows.length = n) (hn2 : n ≤ 4096) (hA : Img w A rows) (hr : ∀ b ∈ rows, b.length ≤ 65536) :
    Calls Try.prog 31 #[.slice A n cap] w fun e w' => e = .returned (.slice (some ⟨w.heap.size, 0, none⟩) n n) ∧ Secs w' (fun j => w.heap.size < j ∧ j < w'.heap.size) w.heap.size rows ∧ Below w.heap.size w w' := by
  have hmk := run_mkS n hn2
  have HN := Lib.hid hn
  have HA := Lib.hid hA
  have HR := Lib.hid hr
  have HST : Hid (CopR w rows 0 (w.alloc (.cells (madeCells #[.slice none 0 0] n) 33))) := Lib.hid ⟨Secs.blank _ rows hn (Blk.new _ _ _), (Below.refl _ _).alloc (Nat.le_refl _) _, by simp⟩
  clear hn hA hr
  go_enter Try.func31, Try.ntmps31
  go_wp2
  clear hmk
  go_loopw [4, 5, 11] (fun a b i wr => ∃ k : Nat, k ≤ n ∧ i = .int .i64 (k : Int) ∧ Hid (CopR w rows k wr)) (fun _ _ i _ => n - (intOf i).toNat)
  case atStart => exact ⟨0, Nat.zero_le _, rfl, HST⟩
  case round =>
    obtain ⟨k, hk, rfl, hI⟩ := hrel
    clear HST
    by_cases hlt : k < n
    · have hd : decide ((k : Int) < (n : Int)) = true := by simpa using hlt
      obtain ⟨bs, hbs⟩ : ∃ bs, rows[k]? = some bs := ⟨_, List.getElem?_eq_getElem (by rw [HN.out]; exact hlt)⟩
      obtain ⟨b, off, v, rfl, hblt, hc, A2, c2, rfl, hl2, hm2, hby, _⟩ := HA.out k bs hbs
      have hc' := (hI.out.bel.cell (p := ⟨b, off + k, none⟩) hblt).trans hc
      have hle := HR.out bs (List.mem_of_getElem? hbs)
      obtain ⟨L, hL⟩ : ∃ L, bs.length = L := ⟨_, rfl⟩
      rw [hL] at hc' hle
      have HBS := Lib.hid hbs
      have HLL := Lib.hid hL
      clear hc
      by_cases h0 : 0 < L
      · have hd2 : decide ((0 : Int) < (L : Int)) = true := by simpa using h0
        have hmk := run_mk8 L (by omega)
        have cR : Blk ((wr.setCell ⟨w.heap.size, k, none⟩ (.slice (some ⟨wr.heap.size, 0, none⟩) L L)).alloc (.cells (mk8 L) 5)) wr.heap.size 5 (List.replicate L (bv 0)).toArray := by
          rw [← mk8_eq]; have := Blk.new (wr.setCell ⟨w.heap.size, k, none⟩ (.slice (some ⟨wr.heap.size, 0, none⟩) L L)) 5 (mk8 L); simpa [World.setCell] using this
        have hbA : Bytes ((wr.setCell ⟨w.heap.size, k, none⟩ (.slice (some ⟨wr.heap.size, 0, none⟩) L L)).alloc (.cells (mk8 L) 5)) A2 bs :=
          hby.below ((hI.out.bel.setCell (p := ⟨w.heap.size, k, none⟩) (Nat.le_refl _) _).alloc (by have := hI.out.size; simp [World.setCell]; omega) _)
        obtain ⟨w3, hcp, hR3, hg3, _⟩ := run_copy8 _ 3 wr.heap.size L L A2 c2 bs _ hbA cR (by omega) (by simp)
        rw [hL] at hcp
        simp only [goInt] at hcp
        have hR4 : Blk w3 wr.heap.size 5 (row8 bs) := by
          have e : bs.map bv ++ (List.replicate L (bv 0)).drop bs.length = bs.map bv := by rw [hL]; simp
          unfold row8; rw [← e]; exact hR3
        have HI2 := Lib.hid (hI.out.step hbs hL hle hR4 hg3)
        obtain ⟨v0, hv0, _⟩ := hI.out.secs.at_ (k := k) (b := (part rows k)[k]'(by rw [part_length _ _ (by rw [HN.out]; omega), HN.out]; exact hlt)) (List.getElem?_eq_getElem _)
        have hv1 : (wr.alloc (.cells (mk8 L) 5)).cell? ⟨w.heap.size, k, none⟩ = some v0 := (World.cell?_of_block (a := ⟨w.heap.size, k, none⟩) (Below.heap_alloc _ _ _ hI.out.size)).trans hv0
        have hf1 : (wr.alloc (.cells (mk8 L) 5)).frozen? ⟨w.heap.size, k, none⟩ = false := (World.frozen?_of_block (a := ⟨w.heap.size, k, none⟩) (Below.heap_alloc _ _ _ hI.out.size)).trans (hI.out.secs.free k)
        have hsz := hI.out.size
        clear hR3 hR4 hg3 hbA cR hby hbs hL
        go_wp2
        go_roundw
        case rel => exact ⟨k + 1, by omega, by go_num, HI2⟩
        case measure => simp [intOf]; omega
      · obtain rfl : L = 0 := by omega
        have hbe : bs = [] := List.eq_nil_of_length_eq_zero hL
        have HI2 := Lib.hid (hI.out.skip (by rw [← hbe]; exact hbs))
        clear hbs hL hbe hby hle
        go_wp2
        go_roundw
        case rel => exact ⟨k + 1, by omega, by go_num, HI2⟩
        case measure => simp [intOf]; omega
    · obtain rfl : k = n := by omega
      have hd : decide ((k : Int) < (k : Int)) = false := by simp
      have hs := hI.out.secs
      rw [← HN.out, part_full] at hs
      have HS := Lib.hid hs
      have HB := Lib.hid hI.out.bel
      clear hs
      go_wp2
      go_ret
      exact ⟨rfl, HS.out, HB.out⟩

theorem Run.image {w0 w : World} {X : Nat → Prop} {g : Nat} {D : DS} (h : Run w0 w X g D) :
    Calls Try.prog 16 #[.pointer (some ⟨g, 0, none⟩)] w fun e w' => e = .returned (.slice (some ⟨w.heap.size, 0, none⟩) D.S.length D.S.length) ∧ Secs w' (fun j => w.heap.size < j ∧ j < w'.heap.size) w.heap.size D.S ∧ Below w.heap.size w w' := by
  obtain ⟨⟨F, ⟨E, gl, gi, rv, hk, _⟩, _⟩, _⟩ := h
  have H := Lib.hid (copied_any (some ⟨gl, 0, none⟩) D.S.length D.S.length D.S w rfl hk.ok.hi hk.secs.img (fun b hb => by rcases hk.ok.sec b hb with rfl | h <;> simp_all))
  have c0 := hk.hd.c0
  generalize D.S.length = n at *
  clear hk
  go_enter Try.func16, Try.ntmps16
  go_wp2_with fail
  refine H.out.mono ?_
  rintro e w' ⟨rfl, hS, hb⟩
  have HS := Lib.hid hS
  have HB := Lib.hid hb
  clear hS hb
  go_wp2_with fail
  go_ret
  exact ⟨rfl, HS.out, HB.out⟩

/-- Two images are compared. -/
theorem same_short (A B : Option Addr) (n m c1 c2 : Nat) (w : World) (h : n ≠ m) :
    Calls Try.prog 18 #[.slice A n c1, .slice B m c2] w fun e w' => e = .returned (.bool false) ∧ w = w' := by
  have hd : ((n : Int) != (m : Int)) = true := by simp; omega
  go_enter Try.func18, Try.ntmps18
  go_wp2
  go_ret
  exact ⟨rfl, rfl⟩

set_option maxHeartbeats 1000000 in
set_option maxRecDepth 40000 in
theorem same_long (A B : Option Addr) (n c1 c2 : Nat) (xs ys : List (List UInt8)) (w : World) (h1 : xs.length = n) (h2 : ys.length = n) (hA : Img w A xs) (hB : Img w B ys) (hn : n ≤ 9223372036854775807) (hx : ∀ b ∈ xs, b.length ≤ 4503599627370496) (hy : ∀ b ∈ ys, b.length ≤ 4503599627370496) :
    Calls Try.prog 18 #[.slice A n c1, .slice B n c2] w fun e w' => e = .returned (.bool (decide (xs = ys))) ∧ Below w.heap.size w w' := by
  have hd : ((n : Int) != (n : Int)) = false := by simp
  have HA := Lib.hid hA
  have HB := Lib.hid hB
  have H1 := Lib.hid h1
  have H2 := Lib.hid h2
  have HX := Lib.hid hx
  have HY := Lib.hid hy
  clear hA hB h1 h2 hx hy
  go_enter Try.func18, Try.ntmps18
  go_wp2
  go_loopw [5] (fun i wr => ∃ k : Nat, k ≤ n ∧ i = .int .i64 (k : Int) ∧ Hid (Below w.heap.size w wr) ∧ Hid (xs.take k = ys.take k)) (fun i _ => n - (intOf i).toNat)
  case atStart => exact ⟨0, Nat.zero_le _, rfl, Lib.hid (Below.refl _ _), Lib.hid rfl⟩
  case round =>
    obtain ⟨k, hk, rfl, hb, he⟩ := hrel
    by_cases hlt : k < n
    · have hd2 : decide ((k : Int) < (n : Int)) = true := by simpa using hlt
      obtain ⟨x, hxk⟩ : ∃ x, xs[k]? = some x := ⟨_, List.getElem?_eq_getElem (by rw [H1.out]; exact hlt)⟩
      obtain ⟨y, hyk⟩ : ∃ y, ys[k]? = some y := ⟨_, List.getElem?_eq_getElem (by rw [H2.out]; exact hlt)⟩
      obtain ⟨b, off, v, rfl, hb1, hc, A2, c2', rfl, hl2, hm2, hby, _⟩ := HA.out k x hxk
      obtain ⟨b', off', v', rfl, hb1', hc', B2, c3', rfl, hl3, hm3, hby', _⟩ := HB.out k y hyk
      have q1 := (hb.out.cell (p := ⟨b, off + k, none⟩) hb1).trans hc
      have q2 := (hb.out.cell (p := ⟨b', off' + k, none⟩) hb1').trans hc'
      have lx := HX.out x (List.mem_of_getElem? hxk)
      have ly := HY.out y (List.mem_of_getElem? hyk)
      unfold maxLen at hm2 hm3
      have hq : ∀ m, Calls Try.prog 36 #[.slice A2 x.length c2', .slice B2 y.length c3'] (wr.drewN m) fun e w' => e = .returned (.bool (decide (x = y))) ∧ Below wr.heap.size wr w' := fun m =>
        (eq_any A2 B2 x.length c2' y.length c3' x y (wr.drewN m) rfl rfl ((hby.below hb.out).below ⟨rfl, rfl, rfl, Nat.le_refl _, fun _ _ => rfl⟩) ((hby'.below hb.out).below ⟨rfl, rfl, rfl, Nat.le_refl _, fun _ _ => rfl⟩) (by omega) (by omega)).mono fun e w' ⟨h1, h2⟩ => ⟨h1, (⟨rfl, rfl, rfl, Nat.le_refl _, fun _ _ => rfl⟩ : Below wr.heap.size wr (wr.drewN m)).trans h2⟩
      have HQ := Lib.hid hq
      have HXK := Lib.hid hxk
      have HYK := Lib.hid hyk
      generalize x.length = lx' at *
      generalize y.length = ly' at *
      generalize hdd : decide (x = y) = d at *
      have HDD := Lib.hid hdd
      clear hq hby hby' hc hc' hxk hyk hdd
      go_wp2
      go_still_tail 8, (by kernel_rfl)
      go_wp2_with fail
      refine (HQ.out 1).mono ?_
      rintro e w2 ⟨rfl, hb2⟩
      have HB2 := Lib.hid (hb.out.trans (hb2.mono hb.out.size))
      clear hb2
      cases d
      · have hne : Hid (decide (xs = ys) = false) := Lib.hid (by
          rw [decide_eq_false_iff_not]
          intro e
          have h1 := HXK.out
          rw [e, HYK.out] at h1
          injection h1 with h1
          have := HDD.out
          rw [decide_eq_false_iff_not] at this
          exact this h1.symm)
        go_wp2_with fail
        go_ret
        exact ⟨by rw [hne.out]; rfl, HB2.out⟩
      · have he2 : Hid (xs.take (k + 1) = ys.take (k + 1)) := Lib.hid (by
          have hx := (List.getElem?_eq_some_iff.1 HXK.out)
          have hy := (List.getElem?_eq_some_iff.1 HYK.out)
          have hxy : x = y := by simpa using HDD.out
          rw [List.take_succ_eq_append_getElem hx.1, List.take_succ_eq_append_getElem hy.1, hx.2, hy.2, he.out, hxy])
        go_wp2_with fail
        go_roundw
        case rel => exact ⟨k + 1, by omega, by go_num, HB2, he2⟩
        case measure => simp [intOf]; omega
    · obtain rfl : k = n := by omega
      have hd2 : decide ((k : Int) < (k : Int)) = false := by simp
      have heq : Hid (decide (xs = ys) = true) := Lib.hid (by
        have := he.out
        rw [List.take_of_length_le (by rw [H1.out]; exact Nat.le_refl _), List.take_of_length_le (by rw [H2.out]; exact Nat.le_refl _)] at this
        simpa using this)
      go_wp2
      go_ret
      exact ⟨by rw [heq.out]; rfl, hb.out⟩

theorem same_any (A B : Option Addr) (n m c1 c2 : Nat) (xs ys : List (List UInt8)) (w : World) (h1 : xs.length = n) (h2 : ys.length = m) (hA : Img w A xs) (hB : Img w B ys) (hn : n ≤ 9223372036854775807) (hx : ∀ b ∈ xs, b.length ≤ 4503599627370496) (hy : ∀ b ∈ ys, b.length ≤ 4503599627370496) :
    Calls Try.prog 18 #[.slice A n c1, .slice B m c2] w fun e w' => e = .returned (.bool (decide (xs = ys))) ∧ Below w.heap.size w w' := by
  by_cases e : n = m
  · subst e
    exact same_long A B n c1 c2 xs ys w h1 h2 hA hB hn hx hy
  · have hne : decide (xs = ys) = false := by
      rw [decide_eq_false_iff_not]
      intro e'
      rw [e', h2] at h1
      exact e h1.symm
    rw [hne]
    refine (same_short A B n m c1 c2 w e).mono ?_
    rintro e w' ⟨rfl, rfl⟩
    exact ⟨rfl, Below.refl _ _⟩

end Go.Proofs.Ytiemfhncadcemaa
