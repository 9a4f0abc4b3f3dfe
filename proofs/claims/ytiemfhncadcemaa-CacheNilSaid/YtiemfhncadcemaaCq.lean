/- cache: rising, walked. -/
import Derived.Test.YtiemfhncadcemaaCp
namespace Go.Proofs.Ytiemfhncadcemaa
open Go.RowKit Go.Sort Dsk
theorem nums_perm (V : List Nat) : ∃ V' : List Nat, nums V' = (nums V).mergeSort (fun x y => decide (x ≤ y)) ∧ V'.length = V.length ∧ ∀ z, z ∈ V' ↔ z ∈ V := by
  have hm : ∀ z ∈ (nums V).mergeSort (fun x y => decide (x ≤ y)), ∃ v ∈ V, (v : Int) = z := fun z hz => by
    rw [List.mem_mergeSort] at hz
    exact List.mem_map.1 hz
  have e : nums (((nums V).mergeSort (fun x y => decide (x ≤ y))).map Int.toNat) = (nums V).mergeSort (fun x y => decide (x ≤ y)) := by
    unfold nums
    rw [List.map_map]
    refine (List.map_congr_left (fun z hz => ?_)).trans (List.map_id _)
    obtain ⟨v, _, rfl⟩ := hm z hz
    rfl
  refine ⟨_, e, by rw [List.length_map, List.length_mergeSort, nums_len], fun z => ?_⟩
  have h1 : ∀ (l : List Nat) (z : Nat), z ∈ l ↔ (z : Int) ∈ nums l := fun l z => by
    unfold nums
    rw [List.mem_map]
    constructor
    · exact fun h => ⟨z, h, rfl⟩
    · rintro ⟨y, h, e⟩
      have : y = z := by omega
      rw [← this]; exact h
  rw [h1, e, List.mem_mergeSort, ← h1]
theorem sorted_back {w wr w2 : World} {q c n : Nat} {os : Array Obj} {V : List Nat} (h : RisI w wr (.slice (some ⟨q, 0, none⟩) V.length c) V) {ts : List Int} (hl : ts.length = V.length) (hw : ∀ z ∈ ts, -9223372036854775808 ≤ z ∧ z < 9223372036854775808)
    (he : w2 = Go.Sort.grow (putRow (Value.int .i64) (Sort.ahead wr n) q 0 ts.toArray) os) : Ints w2 (some ⟨q, 0, none⟩) ts ∧ Below w.heap.size w w2 ∧ w.heap.size ≤ q ∧ q < w2.heap.size := by
  subst he
  have hi := h.ints
  rw [← nums_len] at hi
  have hq : w.heap.size ≤ q := by rcases h.own q rfl with e | e <;> omega
  have hH := hi.holds
  have hH2 := holds_putRow (Value.int .i64) (Sort.ahead wr n) q 0 _ ts.toArray (holds_ahead _ wr n q 0 _ hH) (by simp [hl, nums_len])
  have hlt := hi.own_lt
  have hH3 := holds_grow (Value.int .i64) _ os q 0 _ (by simpa [putRow, mapBlock, Sort.ahead] using hlt) hH2
  have hg : wr.grownBy (Go.Sort.grow (putRow (Value.int .i64) (Sort.ahead wr n) q 0 ts.toArray) os) (some q) := grownBy_sortedI _
  refine ⟨fun k z hz => ?_, h.bel.grown hg h.bel.size (fun k e => by have := Option.some.inj e; omega), hq, Nat.lt_of_lt_of_le hlt hg.size⟩
  have hk := (List.getElem?_eq_some_iff.1 hz).1
  have hc := (hH3 k (by simpa using hk)).1
  refine ⟨q, 0, rfl, Nat.lt_of_lt_of_le hlt hg.size, ?_, hw z (List.mem_of_getElem? hz)⟩
  rw [hc]
  simp [hk]
  exact (List.getElem?_eq_some_iff.1 hz).2
set_option maxRecDepth 20000 in
set_option maxHeartbeats 2000000 in
theorem rising_any (g dg mb n most time : Nat) (E : Nat → Prop) (B : Nat → Nat) (L : List Fr) (w : World) (h : Cm w E g dg mb n B most time L) (hl : L.length ≤ 1024) :
    Calls Try.prog 33 #[.pointer (some ⟨g, 0, none⟩)] w fun e w' => ∃ q c V, e = .returned (.slice (some ⟨q, 0, none⟩) L.length c) ∧ (w.heap.size ≤ q ∧ q < w'.heap.size) ∧ Ints w' (some ⟨q, 0, none⟩) (nums V) ∧ V.length = L.length ∧ (∀ x ∈ L, x.s ∈ V) ∧ (∀ v ∈ V, ∃ x ∈ L, x.s = v) ∧ Below w.heap.size w w' := by
  obtain ⟨c0, c1, c2, c3, _⟩ := h.head.told
  obtain ⟨D, hown, hsz, hS⟩ := h.map
  have hglt := Blk.lt h.head
  have hmlt := h.map.lt
  have hlen := h.map.len
  have HH := Lib.hid h
  have HS := Lib.hid hS
  obtain ⟨l, hll⟩ : ∃ l, L.length = l := ⟨_, rfl⟩
  have HL := Lib.hid hll
  rw [hll] at hlen
  rw [hll]
  rw [hll] at hl
  have hmk := run_mkI0 l (by omega) w
  obtain ⟨w1, hw1⟩ : ∃ w1, w.alloc (.cells (madeCells #[.int .i64 0] l) 3) = w1 := ⟨_, rfl⟩
  have hsz1 : w1.heap.size = w.heap.size + 1 := by rw [← hw1, World.size_alloc]
  have hb1 : Below w.heap.size w w1 := by rw [← hw1]; exact (Below.refl _ _).alloc (Nat.le_refl _) _
  have hown1 : w1.ownsMap Try.prog 3 ptrR mb n D := by
    rw [← hw1]
    obtain ⟨es, clock, h1, h2⟩ := hown
    exact ⟨es, clock, (Below.heap_alloc w _ mb hmlt).trans h1, h2⟩
  have hown0 : IntsZ w1 (.slice (some ⟨w.heap.size, 0, none⟩) 0 l) (nums []) := ⟨by rw [← hw1]; exact World.ownsRow_made w _ l (Nat.zero_le _) (by unfold maxLen; omega) (by simp [madeCells])⟩
  have hc2 : w1.cell? ⟨g, 2, none⟩ = some (.map (some mb)) := (hb1.cell (p := ⟨g, 2, none⟩) hglt).trans c2
  have HO0 := Lib.hid hown0
  have HB1 := Lib.hid hb1
  simp only [hw1] at hmk
  clear h hS hsz hll hown hown0 hb1
  go_enter Try.func33, Try.ntmps33
  go_wp2_with (first
    | (at_range; refine wpList_range_own _ rfl _ 63 rfl 3 68 (Maps.int_keyed Try.underlying3) Try.underlying63 _ mb n D rfl hown1 ?_; intro w0 hrg0 hg0 hs0)
    | go_in)
  have hR0 : RisI w w0 (.slice (some ⟨w.heap.size, 0, none⟩) 0 l) [] := by
    have hsz0 : w.heap.size + 2 ≤ w0.heap.size := by rw [hs0, hsz1]; exact Nat.le_refl _
    exact ⟨HO0.out.same fun k hk => hg0.block k (HO0.out.lt k hk) (by simp), fun j hj => .inl (Option.some.inj hj).symm, ⟨_, _, rfl⟩,
      ⟨hg0.os.trans HB1.out.os, hg0.tape.trans HB1.out.tape, hg0.output.trans HB1.out.output, Nat.le_trans (Nat.le_add_right _ 2) hsz0, fun k hk => (hg0.block k (Nat.lt_of_lt_of_le hk HB1.out.size) (by simp)).trans (HB1.out.block k hk)⟩, hsz0⟩
  have HR0 := Lib.hid hR0
  have hall : ∀ x ∈ L, Maps.has D (.int .i64 (x.s : Int)) = true := fun x hx => by
    rw [(HS.out _ (WalkArith.wf_i64 (by have := (HH.out.secs x hx).2.1; omega))).2]
    unfold atS
    rw [Option.isSome_map, List.find?_isSome]
    exact ⟨x, hx, by simp⟩
  have HALL := Lib.hid hall
  have hr : w1.heap.size = w.heap.size + 1 := hsz1
  simp only [hr] at hrg0 ⊢
  clear hR0 hall hr hsz1 hs0 hg0 HB1 HO0 hw1 hown1 hlen
  clear hmk
  go_frame
  go_loopw [3, 4] (fun lv _ wr => ∃ (left : Lit → Bool) (cnt : Nat) (V : List Nat), wr.ranges Try.prog 3 ptrR mb (w.heap.size + 1) n D left cnt ∧ Hid (RisI w wr lv V) ∧ Hid (∀ z, left z = true → Maps.has D z = true) ∧ Hid (∀ x ∈ L, left (.int .i64 (x.s : Int)) = false → x.s ∈ V) ∧ Hid (∀ v ∈ V, ∃ x ∈ L, x.s = v) ∧ Hid (V.length = came (fun _ => true) left L))
    (fun _ _ wr => wr.rangeLeft mb (w.heap.size + 1))
  case atStart =>
    exact ⟨_, _, [], hrg0, HR0, Lib.hid (fun z h => h), Lib.hid (fun x hx h0 => by rw [HALL.out x hx] at h0; cases h0), Lib.hid (fun v hv => by cases hv), Lib.hid (by rw [came_none _ _ _ HALL.out]; rfl)⟩
  case round =>
    obtain ⟨left, cnt, V, hrg, HR, HSUB, HIN, HOF, HCT⟩ := hrel
    obtain ⟨q, c, hv⟩ := HR.out.blk
    have HV : Hid (V.length ≤ l) := Lib.hid (by rw [HCT.out, ← HL.out]; exact List.countP_le_length)
    obtain ⟨vn, hvn⟩ : ∃ vn, V.length = vn := ⟨_, rfl⟩
    rw [hvn] at hv
    have HVN := Lib.hid hvn
    have hvl : vn ≤ 1024 := by have := HV.out; omega
    subst hv
    clear hvn
    go_wp2_with (first
      | (at_next; refine next_ptr _ rfl _ rfl (atS B L) mb (w.heap.size + 1) n D left cnt HS.out HSUB.out rfl hrg ?_ ?_)
      | go_in)
    · intro hc0 hl0
      have hvl : vn = l := by rw [← HVN.out, HCT.out, came_all _ _ _ hl0, ← HL.out]; simp
      subst hvl
      obtain ⟨V', e1, e2, e3⟩ := nums_perm V
      have hi := HR.out.ints
      have hsl := slices_Sort_int q 0 c (nums V) wr (by
        have h5 : IntsZ wr (.slice (some ⟨q, 0, none⟩) (nums V).length c) (nums V) := by rw [nums_len, HVN.out]; exact hi
        exact h5.holds) hi.own_lt (by rw [nums_len, HVN.out]; omega)
      rw [nums_len, HVN.out] at hsl
      have HSL := Lib.hid hsl
      have HL0 := Lib.hid hl0
      have HE := Lib.hid (And.intro e1 (And.intro e2 e3))
      clear hrg hi hsl e1 e2 e3 hl0
      go_wp2_with fail
      refine HSL.out.mono ?_
      rintro e w2 ⟨rfl, nn, os, he⟩
      have HF := Lib.hid (show Ints w2 (some ⟨q, 0, none⟩) (nums V') ∧ Below w.heap.size w w2 ∧ w.heap.size ≤ q ∧ q < w2.heap.size by
        rw [← HE.out.1] at he
        exact sorted_back (by have := HR.out; rw [← HVN.out] at this; exact this) (by rw [nums_len, HE.out.2.1]) (fun z hz => by
          obtain ⟨v, hv, rfl⟩ := List.mem_map.1 hz
          obtain ⟨x, hx, rfl⟩ := HOF.out v ((HE.out.2.2 v).1 hv)
          have := (HH.out.secs x hx).2.1
          omega) he)
      clear he HSL
      go_wp2_with fail
      go_ret
      exact ⟨q, c, V', rfl, HF.out.2.2, HF.out.1, by rw [HE.out.2.1, HVN.out], fun x hx => (HE.out.2.2 _).2 (HIN.out x hx (HL0.out _)), fun v hv => HOF.out v ((HE.out.2.2 v).1 hv), HF.out.2.1⟩
    · intro x f w1 cnt1 hwx hlx hfx hrg1 hlt hg1 hs1 hen
      obtain ⟨y, hy, rfl, rfl⟩ := atS_some hfx
      have hR1 := HR.out.frame hg1
      obtain ⟨q', c', v', w5, e0, hrun, hR5, hg5⟩ := hR1.push y.s (by rw [HVN.out]; omega)
      rw [HVN.out] at e0
      have hrg5 := hrg1.kept hg5 (fun e => by rcases hR1.own mb e.symm with h1 | h1 <;> omega) (fun e => by rcases hR1.own _ e.symm with h1 | h1 <;> omega)
      have HSUB1 : Hid (∀ z, (left z && !z.sameKey (.int .i64 (y.s : Int))) = true → Maps.has D z = true) := Lib.hid (fun z hz => HSUB.out z (by
        cases hh : left z with
        | true => rfl
        | false => rw [hh] at hz; cases hz))
      have s1 := came_step (fun _ => true) left y L HH.out.nodup hy hlx
      have HS1 : Hid ((V ++ [y.s]).length = came (fun _ => true) (fun z => left z && !z.sameKey (.int .i64 (y.s : Int))) L) := Lib.hid (by rw [s1, List.length_append, HCT.out]; rfl)
      have HIN1 : Hid (∀ x ∈ L, (left (.int .i64 (x.s : Int)) && !(Lit.int .i64 (x.s : Int)).sameKey (.int .i64 (y.s : Int))) = false → x.s ∈ V ++ [y.s]) := Lib.hid (fun x hx hz => by
        by_cases e : x.s = y.s
        · rw [e]; simp
        · have hs : (Lit.int .i64 (x.s : Int)).sameKey (.int .i64 (y.s : Int)) = false := by rw [same_int]; simp; omega
          rw [hs] at hz
          exact List.mem_append.2 (.inl (HIN.out x hx (by simpa using hz))))
      have HOF1 : Hid (∀ v ∈ V ++ [y.s], ∃ x ∈ L, x.s = v) := Lib.hid (fun v hv => by
        rcases List.mem_append.1 hv with hv | hv
        · exact HOF.out v hv
        · rw [List.mem_singleton.1 hv]; exact ⟨y, hy, rfl⟩)
      have HR5 := Lib.hid hR5
      have HRG := Lib.hid hrg
      have HRG5 := Lib.hid hrg5
      have HLT := Lib.hid hlt
      have HRUN := Lib.hid hrun
      obtain ⟨bf, hbf⟩ : ∃ bf, B y.s = bf := ⟨_, rfl⟩
      rw [hbf] at hen ⊢
      clear hfx hy hwx hlx hg1 hs1 hbf s1 hrg hrg1 hrg5 hR1 hR5 hg5 hrun hlt e0
      go_wp2_with (at_builtin; refine wpList_app rfl _ _ 35 rfl _ _ _ _ rfl rfl HRUN.out ?_; clear HRUN)
      go_roundw
      case rel => exact ⟨_, cnt1, V ++ [y.s], HRG5.out, HR5, HSUB1, HIN1, HOF1, HS1⟩
      case measure => rw [HRG5.out.left_eq, HRG.out.left_eq]; exact HLT.out
end Go.Proofs.Ytiemfhncadcemaa
