/- Seal. -/
import Derived.Test.YtlgoacpmacomnaaDoorCE
import Derived.Test.YtlgoacpmacomnaaDoorCT
import Derived.Test.YtlgoacpmacomnaaDoorCK
import Derived.Outline
namespace Go.Proofs.YtlgoacpmacomnaaDoor
open Go.RowKit Crc

/-- What a block begins with. -/
def hd4 (k n : Nat) : List UInt8 := [UInt8.ofNat k, 0, UInt8.ofNat n, UInt8.ofNat (n / 256)]
theorem hd4_row (k n : Nat) (hk : k < 256) (hn : n < 65536) : row8 (hd4 k n) = #[.int .u8 (k : Int), .int .u8 0, .int .u8 ((n : Int) % 256), .int .u8 ((n : Int) / 256)] := by
  have h1 : k % 256 = k := Nat.mod_eq_of_lt hk
  have h2 : n / 256 % 256 = n / 256 := Nat.mod_eq_of_lt (by omega)
  simp [row8, hd4, bv, h1]
  omega

theorem head_any (k n : Nat) (w : World) (_hk : k < 256) (hn : n < 65536) :
    Calls Tryd.prog 23 #[.int .u8 (k : Int), .int .i64 (n : Int)] w fun e w' => e = .returned (.agg #[.int .u8 (k : Int), .int .u8 0, .int .u8 ((n : Int) % 256), .int .u8 ((n : Int) / 256)]) ∧ Below w.heap.size w w' := by
  go_enter Tryd.func23, Tryd.ntmps23
  go_wp2
  exact bodyPost_ret (v := .agg #[.int .u8 (k : Int), .int .u8 0, .int .u8 ((n : Int) % 256), .int .u8 ((n : Int) / 256)]) (by simp [results, Tryd.results23, go_sem]) rfl ⟨rfl, (Below.refl _ w).alloc (Nat.le_refl _) _⟩

/-- copy of a whole slice of bytes into a row of the call's own, from a place on. -/
theorem run_copy8_at (w : World) (ty : TypeId) (g o m c : Nat) (A : Option Addr) (len cap : Nat) (bs : List UInt8) (cur : List Value) (hl : bs.length = len) (hA : Bytes w A bs) (hR : Blk w g 5 cur.toArray) (hm : len ≤ m) (hc : o + m ≤ cur.length) :
    ∃ w', (Builtin.copy_ #[22, 22] ty #[.slice (some ⟨g, o, none⟩) m c, .slice A len cap]).run Tryd.prog w = .ok (goInt len) w' ∧
      Blk w' g 5 (cur.take o ++ bs.map bv ++ cur.drop (o + len)).toArray ∧ w.grownBy w' (some g) ∧ w'.heap.size = w.heap.size := by
  subst hl
  rcases Nat.eq_zero_or_pos bs.length with h0 | h0
  · obtain rfl : bs = [] := List.eq_nil_of_length_eq_zero h0
    exact ⟨w, run_copy_none (P := Tryd.prog) w _ _ ty 5 _ _ _ _ _ _ Tryd.underlying22 Tryd.size8 (by simp), by simpa using hR, World.grownBy.refl w _, rfl⟩
  · obtain ⟨b, off, rfl, hb, hcell⟩ := hA.at_ h0
    have hrun := run_copy_row (P := Tryd.prog) w 22 22 ty 5 g o m c ⟨b, off, none⟩ bs.length cap cur.toArray 5 (bs.map bv) Tryd.underlying22 Tryd.size8 hR (by rw [List.length_map]; exact (Nat.min_eq_left hm).symm)
      (fun j v hv => by
        rw [List.getElem?_map] at hv
        cases hj : bs[j]? with
        | none => rw [hj] at hv; cases hv
        | some d =>
          rw [hj] at hv
          simp only [Option.map_some, Option.some.injEq] at hv
          subst hv
          have e : (⟨b, off, none⟩ : Addr).add j = ⟨b, off + j, none⟩ := by unfold Addr.add; split <;> simp_all
          rw [e]; exact hcell j d hj)
      (by simp; omega) (fun v hv => by obtain ⟨d, _, rfl⟩ := List.mem_map.1 hv; rfl)
    refine ⟨_, by simpa using hrun, ?_, ?_, by simp [World.setRow]⟩
    · have := setRow_heap w g cur.toArray (cur.take o ++ bs.map bv ++ cur.drop (o + (bs.map bv).length)).toArray 5 (0, 0) hR
      simpa [Blk] using this
    · exact ⟨rfl, rfl, rfl, by simp [World.setRow], fun k hk hne => setRow_other w g k _ (fun e => hne (by rw [e]))⟩

/-- The bytes ahead of the sum. -/
def base (k : Nat) (bs : List UInt8) : List UInt8 := hd4 k bs.length ++ bs ++ List.replicate (248 - bs.length) 0
theorem base_length (k : Nat) (bs : List UInt8) (h : bs.length ≤ 248) : (base k bs).length = 252 := by simp [base, hd4]; omega
/-- A block. -/
def blockOf (k : Nat) (bs : List UInt8) : List UInt8 := base k bs ++ lePut (sumFrom 0 (base k bs)) 4
theorem blockOf_length (k : Nat) (bs : List UInt8) (h : bs.length ≤ 248) : (blockOf k bs).length = 256 := by simp [blockOf, base_length k bs h, lePut_length]

theorem base_laid (k : Nat) (bs : List UInt8) (h : bs.length ≤ 248) :
    List.take 4 (List.take 0 (List.map bv (List.replicate 252 0)) ++ List.map bv (hd4 k bs.length) ++ List.drop (0 + 4) (List.map bv (List.replicate 252 0))) ++ List.map bv bs ++
      List.drop (4 + bs.length) (List.take 0 (List.map bv (List.replicate 252 0)) ++ List.map bv (hd4 k bs.length) ++ List.drop (0 + 4) (List.map bv (List.replicate 252 0))) = (base k bs).map bv := by
  have hl : (List.map bv (hd4 k bs.length)).length = 4 := by simp [hd4]
  rw [List.take_zero, List.nil_append, List.take_left' hl, List.drop_append, hl, show List.drop (4 + bs.length) (List.map bv (hd4 k bs.length)) = [] from List.drop_eq_nil_of_le (by omega), List.nil_append, show 4 + bs.length - 4 = bs.length by omega]
  unfold base
  rw [List.map_append, List.map_append, ← List.map_drop, List.drop_replicate, ← List.map_drop, List.drop_replicate]

theorem run_mk252 (w : World) :
    (Instr.makeSlice 22 (.int .i64 252) (.int .i64 252)).run Tryd.prog w = .ok (.slice (some ⟨w.heap.size, 0, none⟩) 252 252) (w.alloc (.cells (row8 (List.replicate 252 0)) 5)) := by
  have h := run_mk8 252 (by decide) w
  rw [mk8_eq] at h
  have e : (List.replicate 252 (bv 0)).toArray = row8 (List.replicate 252 0) := by unfold row8; rw [List.map_replicate]
  rw [e] at h
  exact h

theorem seal_no (k : Nat) (A : Option Addr) (len cap : Nat) (w : World) (_hk : k < 256) (h : k = 0 ∨ 248 < len) :
    Calls Tryd.prog 11 #[.int .u8 (k : Int), .slice A len cap] w fun e w' => e = .returned (.tuple #[.slice none 0 0, .int .i64 1]) ∧ w = w' := by
  by_cases h0 : k = 0
  · subst h0
    go_enter Tryd.func11, Tryd.ntmps11
    go_wp2
    go_ret2
    exact ⟨rfl, rfl⟩
  · have hb : ((k : Int) == 0) = false := by simpa using h0
    have h1 : 248 < len := by omega
    clear h
    go_enter Tryd.func11, Tryd.ntmps11
    go_wp2
    go_ret2
    exact ⟨rfl, rfl⟩

set_option maxRecDepth 20000 in
set_option maxHeartbeats 1000000 in
theorem seal_yes (k : Nat) (A : Option Addr) (len cap : Nat) (bs : List UInt8) (w : World) (hk : k < 256) (hk0 : k ≠ 0) (hlen : bs.length = len) (h248 : len ≤ 248) (hA : Bytes w A bs) (hT : Tab w) :
    Calls Tryd.prog 11 #[.int .u8 (k : Int), .slice A len cap] w fun e w' => ∃ g, e = .returned (.tuple #[.slice (some ⟨g, 0, none⟩) 256 256, .int .i64 0]) ∧ w.heap.size ≤ g ∧ Blk w' g 5 (row8 (blockOf k bs)) ∧ Below w.heap.size w w' := by
  have hb : ((k : Int) == 0) = false := by simpa using hk0
  have hd : decide ((248 : Int) < (len : Int)) = false := by simp; omega
  have H1 := Lib.hid (head_any k len w hk (by omega))
  have HA := Lib.hid hA
  have HT := Lib.hid hT
  have HK := Lib.hid hk
  have HL := Lib.hid hlen
  clear hA hT hk hk0 hlen
  go_enter Tryd.func11, Tryd.ntmps11
  go_wp2_with fail
  refine H1.out.mono ?_
  rintro e w1 ⟨rfl, hbel⟩
  have HB := Lib.hid hbel
  clear hbel H1
  have hmk := run_mk252
  obtain ⟨z4, hz4⟩ : ∃ z4, row8 (List.replicate 252 0) = z4 := ⟨_, rfl⟩
  rw [hz4] at hmk
  have hrow := hd4_row k len HK.out (by omega)
  obtain ⟨wc, hwc⟩ : ∃ wc, (w1.alloc (.cells #[.int .u8 (k : Int), .int .u8 0, .int .u8 ((len : Int) % 256), .int .u8 ((len : Int) / 256)] 47)).alloc (.cells z4 5) = wc := ⟨_, rfl⟩
  obtain ⟨X, hX⟩ : ∃ X, w1.heap.size = X := ⟨_, rfl⟩
  have hsz : w.heap.size ≤ X := by rw [← hX]; exact HB.out.size
  have bX : Blk wc X 47 (row8 (hd4 k len)) := by rw [← hwc, hrow, ← hX]; exact (Blk.new w1 _ _).alloc _
  have bY : Blk wc (X + 1) 5 (row8 (List.replicate 252 0)) := by
    have := Blk.new (w1.alloc (.cells #[.int .u8 (k : Int), .int .u8 0, .int .u8 ((len : Int) % 256), .int .u8 ((len : Int) / 256)] 47)) 5 z4
    rw [World.size_alloc] at this
    rw [← hwc, hz4, ← hX]; exact this
  have hcB : Below w.heap.size w wc := by rw [← hwc]; exact (HB.out.alloc (by omega) _).alloc (by simp; omega) _
  have hY : Bytes wc (some ⟨X, 0, none⟩) (hd4 k len) := Bytes.row bX
  obtain ⟨w2, hcp1, hR1, hg1, hs1⟩ := run_copy8_at wc 3 (X + 1) 0 252 252 (some ⟨X, 0, none⟩) 4 4 (hd4 k len) _ rfl hY bY (by decide) (by simp)
  have hc2 : Below w.heap.size w w2 := hcB.grown hg1 hcB.size (fun k e => by injection e with e; omega)
  obtain ⟨w3, hcp2, hR2, hg2, hs2⟩ := run_copy8_at w2 3 (X + 1) 4 248 248 A len cap bs _ HL.out (HA.out.below hc2) hR1 h248 (by simp [hd4])
  have hc3 : Below w.heap.size w w3 := hc2.grown hg2 hc2.size (fun k e => by injection e with e; omega)
  have hR3 : Blk w3 (X + 1) 5 (row8 (base k bs)) := by
    have hL := HL.out
    subst hL
    have e := base_laid k bs h248
    unfold row8
    rw [← e]
    exact hR2
  have hY3 := Bytes.row hR3
  have hsum := sum_anyL (some ⟨X + 1, 0, none⟩) 252 252 (base k bs) w3 (base_length k bs (by have := HL.out; omega)) (HT.out.below hc3) hY3 (by decide)
  have hslt := sumFrom_lt (x := 0) (by decide) (base k bs)
  have hput := put_okL (some ⟨X + 1, 0, none⟩) 252 252 4 (sumFrom 0 (base k bs)) (base k bs) w3 (base_length k bs (by have := HL.out; omega)) (by decide) (by decide) hY3
  obtain ⟨s, hs⟩ : ∃ s, sumFrom 0 (base k bs) = s := ⟨_, rfl⟩
  have hbo : base k bs ++ lePut s 4 = blockOf k bs := by rw [← hs]; rfl
  rw [hs] at hsum hput hslt
  rw [hbo] at hput
  have hsz3 : w.heap.size ≤ w3.heap.size := hc3.size
  simp only [goInt] at hcp1 hcp2
  rw [← hwc] at hcp1
  have HS := Lib.hid hsum
  have HP := Lib.hid hput
  have HC3 := Lib.hid hc3
  have HSZ := Lib.hid hsz3
  clear hsum hput hc3 hsz3 hR1 hR2 hR3 hg1 hg2 hs1 hs2 hY3 hbo hs hcB hc2 hY bX bY hrow hz4 hwc
  go_wp2_with (first
    | (go_at_call 25; refine HS.out.mono ?_; rintro e w' ⟨rfl, rfl⟩)
    | (go_at_call 24; refine HP.out.mono ?_; rintro e w4 ⟨rfl, hb4, hl4⟩; have HF := Lib.hid hb4; have HL4 := Lib.hid hl4; clear hb4 hl4))
  go_ret2
  exact ⟨_, rfl, Nat.le_trans HSZ.out (Nat.le_add_right _ _), HF.out, HC3.out.trans (HL4.out.mono HSZ.out)⟩

end Go.Proofs.YtlgoacpmacomnaaDoor
