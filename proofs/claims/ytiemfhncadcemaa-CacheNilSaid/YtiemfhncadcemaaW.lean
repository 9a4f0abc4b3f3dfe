/- aumbryref00's copies and comparisons; the reference's Fill. -/
import Derived.Test.YtiemfhncadcemaaU
import Derived.Deep.AppendSrc
import Derived.Lib.ConvBytes
import Derived.BigQuiet
import Derived.Deep.QuietTactic
import Derived.Deep.CutRange
namespace Go.Proofs.Ytiemfhncadcemaa
open Go.RowKit Dsk

/-- The slice (g, 0), len, cap: it reads as cs; all its room is there, and none of it is frozen. -/
structure Rw (w : World) (g len cap : Nat) (cs : List UInt8) : Prop where
  lt : g < w.heap.size
  long : cs.length = len
  le : len ≤ cap
  max : cap ≤ maxLen
  holds : ∀ (j : Nat) (c : UInt8), cs[j]? = some c → w.cell? ⟨g, j, none⟩ = some (bv c)
  there : ∀ j, j < cap → (w.cell? ⟨g, j, none⟩).isSome = true ∧ w.frozen? ⟨g, j, none⟩ = false

theorem Rw.bytes {w : World} {g len cap : Nat} {cs : List UInt8} (h : Rw w g len cap cs) : Bytes w (some ⟨g, 0, none⟩) cs := fun k c hk =>
  ⟨g, 0, rfl, h.lt, by rw [Nat.zero_add]; exact h.holds k c hk⟩
theorem Rw.frame {w w' : World} {g len cap : Nat} {cs : List UInt8} (h : Rw w g len cap cs) (hs : w.heap.size ≤ w'.heap.size) (hb : w'.heap[g]? = w.heap[g]?) : Rw w' g len cap cs :=
  ⟨Nat.lt_of_lt_of_le h.lt hs, h.long, h.le, h.max, fun j c hj => (World.cell?_of_block (a := ⟨g, j, none⟩) hb).trans (h.holds j c hj),
    fun j hj => ⟨by rw [World.cell?_of_block (a := ⟨g, j, none⟩) hb]; exact (h.there j hj).1, (World.frozen?_of_block (a := ⟨g, j, none⟩) hb).trans (h.there j hj).2⟩⟩
theorem Rw.below {w w' : World} {g len cap : Nat} {cs : List UInt8} (h : Rw w g len cap cs) (hb : Below w.heap.size w w') : Rw w' g len cap cs := h.frame hb.size (hb.block g h.lt)
theorem Rw.of_own {w : World} {base g n cap : Nat} {cs : List UInt8} (h : w.ownsRow base 5 1 (.slice (some ⟨g, 0, none⟩) n cap) n (cs.map bv)) : Rw w g n cap cs := by
  rcases h.2 with ⟨e, _⟩ | ⟨g', cap', cur, e, _, hg, hn, hm, hs, ht⟩
  · cases e
  · injection e with e1 e2 e3
    injection e1 with e1
    injection e1 with e1
    subst e1; subst e3
    rw [Nat.mul_one] at hs ht
    have hB : Blk w g 5 cur := hg
    have hl : cs.length = n := by have := h.1; simpa using this
    refine ⟨hB.lt, hl, hn, hm, fun j c hj => ?_, fun j hj => ⟨?_, hB.frozen j⟩⟩
    · rw [hB.cell j]
      have hjl : j < n := by rw [← hl]; exact (List.getElem?_eq_some_iff.1 hj).1
      have e : (cs.map bv)[j]? = some (bv c) := by rw [List.getElem?_map, hj]; rfl
      rw [← ht, List.getElem?_take_of_lt hjl] at e
      rw [← Array.getElem?_toList]; exact e
    · rw [hB.cell j, Array.getElem?_eq_getElem (by rw [hs]; exact hj)]; rfl

/-- What a slice reads as is a source for append. -/
theorem bytes_src {w : World} {b off n c : Nat} {xs : List UInt8} (hn : xs.length = n) (h : ∀ j u, xs[j]? = some u → w.cell? ⟨b, off + j, none⟩ = some (bv u)) : Src Try.prog 1 33 (.slice (some ⟨b, off, none⟩) n c) n (xs.map bv) w :=
  Src.ofSlice w Try.underlying33 ⟨b, off, none⟩ n c (xs.map bv) (by simp [hn]) (fun j u hu => by
    rw [List.getElem?_map] at hu
    cases hj : xs[j]? with
    | none => rw [hj] at hu; cases hu
    | some d =>
      rw [hj] at hu
      simp only [Option.map_some, Option.some.injEq] at hu
      subst hu
      have e2 : (⟨b, off, none⟩ : Addr).add j = ⟨b, off + j, none⟩ := by unfold Addr.add; split <;> simp_all
      rw [e2]; exact h j d hj)
    (fun u hu => by obtain ⟨d, _, rfl⟩ := List.mem_map.1 hu; rfl)

theorem setCells_other (g : Nat) : ∀ (vs : List Value) (o : Nat) (w : World), (w.setCells g o vs).os = w.os ∧ (w.setCells g o vs).tape = w.tape ∧ (w.setCells g o vs).output = w.output ∧ (w.setCells g o vs).heap.size = w.heap.size ∧ (∀ k, k ≠ g → (w.setCells g o vs).heap[k]? = w.heap[k]?) ∧ ∀ a, (w.setCells g o vs).frozen? a = w.frozen? a
  | [], _, w => ⟨rfl, rfl, rfl, rfl, fun _ _ => rfl, fun _ => rfl⟩
  | v :: r, o, w => by
    obtain ⟨h1, h2, h3, h4, h5, h6⟩ := setCells_other g r (o + 1) (w.setCell ⟨g, o, none⟩ v)
    refine ⟨h1, h2, h3, h4.trans (by simp [World.setCell]), fun k hk => (h5 k hk).trans ?_, fun a => (h6 a).trans (World.frozen?_setCell _ _ _ _)⟩
    simp only [World.setCell, Array.getElem?_modify]
    rw [if_neg (fun e => hk e.symm)]

theorem run_rwapp {w : World} {g len cap : Nat} {cs xs : List UInt8} (h : Rw w g len cap cs) (b off n c : Nat) (hn : xs.length = n) (hx : ∀ j u, xs[j]? = some u → w.cell? ⟨b, off + j, none⟩ = some (bv u)) (hb : len + n ≤ 140737488355328) :
    ∃ g' cap' w', (Builtin.append_ #[33, 33] 33 #[.slice (some ⟨g, 0, none⟩) len cap, .slice (some ⟨b, off, none⟩) n c]).run Try.prog w = .ok (.slice (some ⟨g', 0, none⟩) (len + n) cap') w' ∧
      Rw w' g' (len + n) cap' (cs ++ xs) ∧ Rw w' g len cap cs ∧ (g' = g ∧ cap' = cap ∨ g' = w.heap.size) ∧ (∀ k, k < w.heap.size → k ≠ g → w'.heap[k]? = w.heap[k]?) ∧ (∀ B, B ≤ g → Below B w w') := by
  obtain ⟨i0, hi, hz0, hz1, hz2⟩ := info_parts Try.info8
  have hs := bytes_src (c := c) hn hx
  rw [← hz1] at hs
  have hml : (cs ++ xs).length = len + n := by rw [List.length_append, h.long, hn]
  by_cases hroom : len + n ≤ cap
  · have hr := run_append_room_src (P := Try.prog) w 33 33 33 5 i0 Try.underlying33 hi g 0 len cap _ n _ hs hroom
      (fun j hj => by rw [hz1]; simp at hj; exact (h.there _ (by omega)).1) (fun j hj => by rw [hz1]; simp at hj; exact (h.there _ (by omega)).2)
    rw [hz1, Nat.zero_add, Nat.mul_one] at hr
    obtain ⟨o1, o2, o3, o4, o5, o6⟩ := setCells_other g (xs.map bv) len w
    have hin := World.cell?_setCells_in g (xs.map bv) len w (fun j hj => by simp at hj; exact (h.there _ (by omega)).1)
    have hout := fun k (hk : k < len ∨ len + n ≤ k) => World.cell?_setCells_out g (xs.map bv) len w ⟨g, k, none⟩ (fun _ _ => by simp; omega)
    have hth : ∀ j, j < cap → ((w.setCells g len (xs.map bv)).cell? ⟨g, j, none⟩).isSome = true ∧ (w.setCells g len (xs.map bv)).frozen? ⟨g, j, none⟩ = false := fun j hj => by
      refine ⟨?_, by rw [o6]; exact (h.there j hj).2⟩
      by_cases h1 : j < len ∨ len + n ≤ j
      · rw [hout j h1]; exact (h.there j hj).1
      · have := hin (j - len) (by simp; omega)
        rw [show len + (j - len) = j by omega] at this
        rw [this]; rfl
    have hol : ∀ (j : Nat) (c : UInt8), cs[j]? = some c → (w.setCells g len (xs.map bv)).cell? ⟨g, j, none⟩ = some (bv c) := fun j c hj => by
      have hjl := (List.getElem?_eq_some_iff.1 hj).1
      rw [h.long] at hjl
      rw [hout j (.inl hjl)]; exact h.holds j c hj
    refine ⟨g, cap, _, hr, ⟨by rw [o4]; exact h.lt, hml, hroom, h.max, fun j c hj => ?_, hth⟩, ⟨by rw [o4]; exact h.lt, h.long, h.le, h.max, hol, hth⟩, .inl ⟨rfl, rfl⟩, fun k _ hk => o5 k hk, fun B hB => ⟨o1, o2, o3, by rw [o4]; exact Nat.le_refl _, fun k hk => o5 k (by omega)⟩⟩
    by_cases hjl : j < len
    · rw [List.getElem?_append_left (by rw [h.long]; exact hjl)] at hj
      exact hol j c hj
    · rw [List.getElem?_append_right (by rw [h.long]; omega), h.long] at hj
      have hj' := (List.getElem?_eq_some_iff.1 hj).1
      have := hin (j - len) (by simp; exact hj')
      rw [show len + (j - len) = j by omega] at this
      rw [this]
      obtain ⟨_, e⟩ := List.getElem?_eq_some_iff.1 hj
      rw [List.getElem_map, e]
  · have hho : (Builtin.firstCells i0.size len (.slice (some ⟨g, 0, none⟩) len cap)).run Try.prog w.drew = .ok (cs.map bv).toArray w.drew := by
      rw [hz1]
      exact run_firstCells_some w.drew 1 len ⟨g, 0, none⟩ len cap (cs.map bv) (by simp [h.long]) (fun j u hu => by
        rw [List.getElem?_map] at hu
        cases hj : cs[j]? with
        | none => rw [hj] at hu; cases hu
        | some d =>
          rw [hj] at hu
          simp only [Option.map_some, Option.some.injEq] at hu
          subst hu
          rw [Addr.add_lit, Nat.zero_add]
          exact h.holds j d hj)
    have hmx := h.max
    have hr := run_append_grow_src (P := Try.prog) w 33 33 33 5 i0 _ Try.underlying33 hi hz0 (some ⟨g, 0, none⟩) len cap _ hho _ n _ hs (by omega) (by omega) (growslice_fits (by omega) (by rw [hz2]; omega))
    have hge := grownCap_ge w (len + n) cap 5
    have hcm := grownCap_le_maxLen w (len + n) cap 5 (by unfold maxLen; omega)
    refine ⟨w.heap.size, _, _, hr, ?_, h.frame (by simp) (Below.heap_alloc w.drew _ g h.lt), .inr rfl, fun k hk _ => Below.heap_alloc w.drew _ k hk, fun B hB => ⟨rfl, rfl, rfl, by simp, fun k hk => Below.heap_alloc w.drew _ k (show k < w.heap.size by have := h.lt; omega)⟩⟩
    have hcell := fun j => World.cell?_alloc_new w.drew ((List.map bv cs ++ List.map bv xs).toArray ++ Builtin.zeroCells (Value.int IntKind.u8 0).cells (grownCap w (len + n) cap 5 - (len + n))) 5 j
    refine ⟨by simp, hml, hge, hcm, fun j c hj => ?_, fun j hj => ⟨?_, World.frozen?_alloc_new w.drew _ _ j⟩⟩
    · refine (hcell j).trans ?_
      have hj' := (List.getElem?_eq_some_iff.1 hj).1
      rw [Array.getElem?_append_left (by simpa using hj'), List.getElem?_toArray, ← List.map_append, List.getElem?_map, hj]
      rfl
    · have e1 := hcell j
      refine (congrArg Option.isSome e1).trans ?_
      rw [Array.getElem?_eq_getElem]
      · rfl
      · rw [Array.size_append, size_zeroCells]
        simp only [List.size_toArray, List.length_append, List.length_map, h.long, hn]
        show j < len + n + (grownCap w (len + n) cap 5 - (len + n)) * 1
        omega


theorem run_bytes8 (w : World) (bs : List UInt8) (hl : bs.length ≤ maxLen) : ∃ c w', (convert 9 33 (.string (str bs))).run Try.prog w = .ok (.slice (some ⟨w.heap.size, 0, none⟩) bs.length c) w' ∧ Rw w' w.heap.size bs.length c bs ∧ Below w.heap.size w w' := by
  have h := Lib.run_convert_string_bytes (P := Try.prog) w 9 33 5 (str bs) Try.underlying9 Try.underlying33 Try.underlying5
  have hsz : (str bs).size = bs.length := by simp [str, ByteArray.size]
  rw [hsz] at h
  have hge := grownCap_ge w bs.length 0 5
  have hcm := grownCap_le_maxLen w bs.length 0 5 hl
  have hn := Lib.bytesWorld_at_new w 5 (str bs)
  have hcs : (Lib.bytesCells w 5 (str bs)).size = grownCap w bs.length 0 5 := by
    unfold Lib.bytesCells
    rw [hsz, Array.size_append]
    simp only [str, List.map_toArray, List.size_toArray, List.length_map, Array.size_replicate]
    omega
  have hcell : ∀ j, (Lib.bytesWorld w 5 (str bs)).cell? ⟨w.heap.size, j, none⟩ = (Lib.bytesCells w 5 (str bs))[j]? := fun j => by
    simp [World.cell?, hn]
  refine ⟨_, _, h, ⟨by rw [Lib.bytesWorld_size]; omega, rfl, hge, hcm, fun j c hj => ?_, fun j hj => ⟨?_, ?_⟩⟩, ⟨rfl, rfl, rfl, by rw [Lib.bytesWorld_size]; omega, fun k hk => Lib.bytesWorld_at_old w 5 (str bs) k hk⟩⟩
  · have hjl := (List.getElem?_eq_some_iff.1 hj).1
    rw [hcell, Lib.bytesCells, Array.getElem?_append_left (by simp [str]; exact hjl)]
    simp only [str, List.map_toArray, List.getElem?_toArray, List.getElem?_map, hj]
    rfl
  · rw [hcell, Array.getElem?_eq_getElem (by rw [hcs]; exact hj)]; rfl
  · simp only [World.frozen?, hn, hcs]
    simp
    omega

def lenV : Value → Nat | .slice _ n _ => n | _ => 0

theorem drewN_below (w : World) (n : Nat) : Below w.heap.size w (w.drewN n) := ⟨rfl, rfl, rfl, Nat.le_refl _, fun _ _ => rfl⟩

/-- What is left of a slice behind its first element. -/
theorem Bytes.tail {w : World} {b off : Nat} {x : UInt8} {p : List UInt8} (h : Bytes w (some ⟨b, off, none⟩) (x :: p)) (A : Option Addr) (hA : p ≠ [] → A = some ⟨b, off + 1, none⟩) : Bytes w A p := fun k c hk => by
  have hp : p ≠ [] := fun e => by rw [e] at hk; simp at hk
  obtain ⟨b', off', e, hlt, hc⟩ := h (k + 1) c (by simpa using hk)
  cases e
  exact ⟨b, off + 1, hA hp, hlt, by rw [show off + 1 + k = off + (k + 1) by omega]; exact hc⟩

set_option maxRecDepth 20000 in
set_option maxHeartbeats 1000000 in
theorem eq_any (A B : Option Addr) (l1 c1 l2 c2 : Nat) (xs ys : List UInt8) (w : World) (h1 : xs.length = l1) (h2 : ys.length = l2) (hA : Bytes w A xs) (hB : Bytes w B ys) (hc1 : l1 ≤ c1 ∧ c1 ≤ 9223372036854775807 ∧ l1 ≤ 4503599627370496) (hc2 : l2 ≤ c2 ∧ c2 ≤ 9223372036854775807 ∧ l2 ≤ 4503599627370496) :
    Calls Try.prog 36 #[.slice A l1 c1, .slice B l2 c2] w fun e w' => e = .returned (.bool (decide (xs = ys))) ∧ Below w.heap.size w w' := by
  have HA := Lib.hid hA
  have HB := Lib.hid hB
  subst h1
  subst h2
  clear hA hB
  go_enter Try.func36, Try.ntmps36
  go_wp2_with fail
  go_loopw [0, 1] (fun a b wr => ∃ (p q : List UInt8) (A' B' : Option Addr) (n1 n2 d1 d2 : Nat), p.length = n1 ∧ q.length = n2 ∧ a = .slice A' n1 d1 ∧ b = .slice B' n2 d2 ∧ (n1 ≤ d1 ∧ d1 ≤ 9223372036854775807 ∧ n1 ≤ 4503599627370496) ∧ (n2 ≤ d2 ∧ d2 ≤ 9223372036854775807 ∧ n2 ≤ 4503599627370496) ∧ Hid (Bytes wr A' p) ∧ Hid (Bytes wr B' q) ∧ Hid (xs = ys ↔ p = q) ∧ Hid (Below w.heap.size w wr)) (fun a _ _ => lenV a)
  case atStart => exact ⟨xs, ys, _, _, _, _, _, _, rfl, rfl, rfl, rfl, hc1, hc2, HA, HB, Lib.hid Iff.rfl, Lib.hid (Below.refl _ _)⟩
  case round =>
    clear HA HB
    obtain ⟨p, q, A', B', n1, n2, d1, d2, hp, hq, rfl, rfl, hd1, hd2, hA, hB, hiff, hbel⟩ := hrel
    have hbn : ∀ n, Hid (Below w.heap.size w (wr.drewN n)) := fun n => Lib.hid (hbel.out.trans ((drewN_below wr n).mono hbel.out.size))
    have HBN := Lib.hid hbn
    clear hbn
    cases p with
    | nil =>
      obtain rfl : n1 = 0 := hp.symm
      have hr : Hid (decide (xs = ys) = ((n2 : Int) == 0)) := Lib.hid (by
        have := hiff.out
        rw [Bool.eq_iff_iff]
        simp only [decide_eq_true_eq, beq_iff_eq]
        rw [this, ← hq]
        cases q <;> simp; omega)
      clear hp hq
      go_wp2_with fail
      go_quiet (fail)
      go_wp2_with fail
      go_ret
      exact ⟨by rw [hr.out]; rfl, (HBN.out _).out⟩
    | cons x p' =>
      obtain ⟨m1, rfl⟩ : ∃ m, n1 = m + 1 := ⟨p'.length, by rw [← hp]; rfl⟩
      have hp' : p'.length = m1 := by simpa using hp
      cases q with
      | nil =>
        obtain rfl : n2 = 0 := hq.symm
        have hr : Hid (decide (xs = ys) = false) := Lib.hid (by simp [hiff.out])
        clear hp hq hp'
        have hd : decide ((0 : Int) < ((m1 + 1 : Nat) : Int)) = true := by simp
        go_wp2_with fail
        go_quiet (fail)
        go_wp2_with fail
        go_ret
        exact ⟨by rw [hr.out]; simp; omega, (HBN.out _).out⟩
      | cons y q' =>
        obtain ⟨m2, rfl⟩ : ∃ m, n2 = m + 1 := ⟨q'.length, by rw [← hq]; rfl⟩
        have hq' : q'.length = m2 := by simpa using hq
        obtain ⟨b, off, rfl, hbl, hcx⟩ := hA.out.at_ (k := 0) (by simp)
        obtain ⟨b2, off2, rfl, hbl2, hcy⟩ := hB.out.at_ (k := 0) (by simp)
        have kx : wr.cell? ⟨b, off, none⟩ = some (.int .u8 (x.toNat : Int)) := hcx 0 x rfl
        have ky : wr.cell? ⟨b2, off2, none⟩ = some (.int .u8 (y.toNat : Int)) := hcy 0 y rfl
        have hd : decide ((0 : Int) < ((m1 + 1 : Nat) : Int)) = true := by simp
        have hde : decide ((0 : Int) < ((m2 + 1 : Nat) : Int)) = true := by simp
        clear hcx hcy hp hq
        by_cases hxy : x = y
        · subst hxy
          go_wp2_with fail
          go_quiet (fail)
          go_wp2_with fail
          refine ⟨⟨p', q', _, _, m1, m2, d1 - 1, d2 - 1, hp', hq', rfl, rfl, by omega, by omega, Lib.hid ((hA.out.tail _ (fun hne => ?_)).below (drewN_below wr _)), Lib.hid ((hB.out.tail _ (fun hne => ?_)).below (drewN_below wr _)), Lib.hid (by rw [hiff.out]; simp), HBN.out _⟩, by simp [lenV]⟩
          · have : 0 < m1 := by rw [← hp']; exact List.length_pos_iff.2 hne
            rw [if_neg (by omega)]
          · have : 0 < m2 := by rw [← hq']; exact List.length_pos_iff.2 hne
            rw [if_neg (by omega)]
        · have hr : Hid (decide (xs = ys) = false) := Lib.hid (by
            have := hiff.out
            simp only [decide_eq_false_iff_not]
            rw [this]
            intro e
            injection e with e1 _
            exact hxy e1)
          have hne : ((x.toNat : Int) == (y.toNat : Int)) = false := by
            have : x.toNat ≠ y.toNat := fun e => hxy (UInt8.toNat_inj.1 e)
            simp; omega
          go_wp2_with fail
          go_quiet (fail)
          go_wp2_with fail
          go_ret
          exact ⟨by rw [hr.out]; simp; omega, (HBN.out _).out⟩


/-- A row of which the first k bytes are laid. -/
def part8 (bs : List UInt8) (n k : Nat) : Array Value := row8 (bs.take k ++ List.replicate (n - k) 0)
theorem part8_zero (bs : List UInt8) (n : Nat) : part8 bs n 0 = mk8 n := by
  unfold part8 row8
  rw [mk8_eq]
  simp
theorem part8_size (bs : List UInt8) (n k : Nat) (hk : k ≤ bs.length) (hn : bs.length ≤ n) : (part8 bs n k).size = n := by simp [part8, row8]; omega
theorem part8_step (bs : List UInt8) (n k : Nat) (hk : k < bs.length) (hn : bs.length ≤ n) : (part8 bs n k).setIfInBounds k (bv bs[k]) = part8 bs n (k + 1) := by
  unfold part8 row8
  rw [List.setIfInBounds_toArray, ← List.map_set]
  congr 2
  rw [show n - k = (n - (k + 1)) + 1 by omega, List.replicate_succ, List.set_append_right _ _ (by simp; omega)]
  simp only [List.length_take, Nat.min_eq_left (Nat.le_of_lt hk), Nat.sub_self, List.set_cons_zero]
  rw [List.take_succ_eq_append_getElem hk, List.append_assoc]
  rfl

end Go.Proofs.Ytiemfhncadcemaa
