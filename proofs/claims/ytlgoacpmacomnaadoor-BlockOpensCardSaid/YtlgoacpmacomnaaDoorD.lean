/- EqBytes; the anchor. -/
import Derived.Test.YtlgoacpmacomnaaDoorC
namespace Go.Proofs.YtlgoacpmacomnaaDoor
open Go.RowKit Crc

/-- How long a slice is. -/
def lenV : Value → Nat | .slice _ n _ => n | _ => 0

theorem drewN_below (w : World) (n : Nat) : Below w.heap.size w (w.drewN n) := ⟨rfl, rfl, rfl, Nat.le_refl _, fun _ _ => rfl⟩

/-- What is left of a slice behind its first element. -/
theorem Bytes.tail {w : World} {b off : Nat} {x : UInt8} {p : List UInt8} (h : Bytes w (some ⟨b, off, none⟩) (x :: p)) (A : Option Addr) (hA : p ≠ [] → A = some ⟨b, off + 1, none⟩) : Bytes w A p := fun k c hk => by
  have hp : p ≠ [] := fun e => by rw [e] at hk; simp at hk
  obtain ⟨b', off', e, hlt, hc⟩ := h (k + 1) c (by simpa using hk)
  cases e
  exact ⟨b, off + 1, hA hp, hlt, by rw [show off + 1 + k = off + (k + 1) by omega]; exact hc⟩

set_option maxRecDepth 20000 in
set_option maxHeartbeats 1000000 in
theorem eq_any (A B : Option Addr) (l1 c1 l2 c2 : Nat) (xs ys : List UInt8) (w : World) (h1 : xs.length = l1) (h2 : ys.length = l2) (hA : Bytes w A xs) (hB : Bytes w B ys) (hc1 : l1 ≤ c1 ∧ c1 ≤ 9223372036854775807 ∧ l1 ≤ 4503599627370496) (hc2 : l2 ≤ c2 ∧ c2 ≤ 9223372036854775807 ∧ l2 ≤ 4503599627370496) :
    Calls Tryd.prog 13 #[.slice A l1 c1, .slice B l2 c2] w fun e w' => e = .returned (.bool (decide (xs = ys))) ∧ Below w.heap.size w w' := by
  have HA := Lib.hid hA
  have HB := Lib.hid hB
  subst h1
  subst h2
  clear hA hB
  go_enter Tryd.func13, Tryd.ntmps13
  go_wp2_with fail
  go_loopw [0, 1] (fun a b wr => ∃ (p q : List UInt8) (A' B' : Option Addr) (n1 n2 d1 d2 : Nat), p.length = n1 ∧ q.length = n2 ∧ a = .slice A' n1 d1 ∧ b = .slice B' n2 d2 ∧ (n1 ≤ d1 ∧ d1 ≤ 9223372036854775807 ∧ n1 ≤ 4503599627370496) ∧ (n2 ≤ d2 ∧ d2 ≤ 9223372036854775807 ∧ n2 ≤ 4503599627370496) ∧ Hid (Bytes wr A' p) ∧ Hid (Bytes wr B' q) ∧ Hid (xs = ys ↔ p = q) ∧ Hid (Below w.heap.size w wr)) (fun a _ _ => lenV a)
  case atStart => exact ⟨xs, ys, _, _, _, _, _, _, rfl, rfl, rfl, rfl, hc1, hc2, HA, HB, Lib.hid Iff.rfl, Lib.hid (Below.refl _ _)⟩
  case round =>
    clear HA HB
    obtain ⟨p, q, A', B', n1, n2, d1, d2, hp, hq, rfl, rfl, hd1, hd2, hA, hB, hiff, hbel⟩ := hrel
    have hbn : ∀ n, Hid (Below w.heap.size w (wr.drewN n)) := fun n => Lib.hid (hbel.out.trans ((drewN_below wr n).mono hbel.out.size))
    have HBN := Lib.hid hbn
    clear hbn
    cases p with
    | nil =>
      obtain rfl : n1 = 0 := hp.symm
      have hr : Hid (decide (xs = ys) = ((n2 : Int) == 0)) := Lib.hid (by
        have := hiff.out
        rw [Bool.eq_iff_iff]
        simp only [decide_eq_true_eq, beq_iff_eq]
        rw [this, ← hq]
        cases q <;> simp; omega)
      clear hp hq
      go_wp2_with fail
      go_quiet (fail)
      go_wp2_with fail
      go_ret
      exact ⟨by rw [hr.out]; rfl, (HBN.out _).out⟩
    | cons x p' =>
      obtain ⟨m1, rfl⟩ : ∃ m, n1 = m + 1 := ⟨p'.length, by rw [← hp]; rfl⟩
      have hp' : p'.length = m1 := by simpa using hp
      cases q with
      | nil =>
        obtain rfl : n2 = 0 := hq.symm
        have hr : Hid (decide (xs = ys) = false) := Lib.hid (by simp [hiff.out])
        clear hp hq hp'
        have hd : decide ((0 : Int) < ((m1 + 1 : Nat) : Int)) = true := by simp
        go_wp2_with fail
        go_quiet (fail)
        go_wp2_with fail
        go_ret
        exact ⟨by rw [hr.out]; simp; omega, (HBN.out _).out⟩
      | cons y q' =>
        obtain ⟨m2, rfl⟩ : ∃ m, n2 = m + 1 := ⟨q'.length, by rw [← hq]; rfl⟩
        have hq' : q'.length = m2 := by simpa using hq
        obtain ⟨b, off, rfl, hbl, hcx⟩ := hA.out.at_ (k := 0) (by simp)
        obtain ⟨b2, off2, rfl, hbl2, hcy⟩ := hB.out.at_ (k := 0) (by simp)
        have kx : wr.cell? ⟨b, off, none⟩ = some (.int .u8 (x.toNat : Int)) := hcx 0 x rfl
        have ky : wr.cell? ⟨b2, off2, none⟩ = some (.int .u8 (y.toNat : Int)) := hcy 0 y rfl
        have hd : decide ((0 : Int) < ((m1 + 1 : Nat) : Int)) = true := by simp
        have hde : decide ((0 : Int) < ((m2 + 1 : Nat) : Int)) = true := by simp
        clear hcx hcy hp hq
        by_cases hxy : x = y
        · subst hxy
          go_wp2_with fail
          go_quiet (fail)
          go_wp2_with fail
          refine ⟨⟨p', q', _, _, m1, m2, d1 - 1, d2 - 1, hp', hq', rfl, rfl, by omega, by omega, Lib.hid ((hA.out.tail _ (fun hne => ?_)).below (drewN_below wr _)), Lib.hid ((hB.out.tail _ (fun hne => ?_)).below (drewN_below wr _)), Lib.hid (by rw [hiff.out]; simp), HBN.out _⟩, by simp [lenV]⟩
          · have : 0 < m1 := by rw [← hp']; exact List.length_pos_iff.2 hne
            rw [if_neg (by omega)]
          · have : 0 < m2 := by rw [← hq']; exact List.length_pos_iff.2 hne
            rw [if_neg (by omega)]
        · have hr : Hid (decide (xs = ys) = false) := Lib.hid (by
            have := hiff.out
            simp only [decide_eq_false_iff_not]
            rw [this]
            intro e
            injection e with e1 _
            exact hxy e1)
          have hne : ((x.toNat : Int) == (y.toNat : Int)) = false := by
            have : x.toNat ≠ y.toNat := fun e => hxy (UInt8.toNat_inj.1 e)
            simp; omega
          go_wp2_with fail
          go_quiet (fail)
          go_wp2_with fail
          go_ret
          exact ⟨by rw [hr.out]; simp; omega, (HBN.out _).out⟩

theorem not_blank : ∀ k body, ¬ IsBlk (List.replicate 256 0) k body := not_isBlk fun n h => h.kind (by rfl)

theorem run_mk256 (w : World) :
    (Instr.makeSlice 22 (.int .i64 256) (.int .i64 256)).run Tryd.prog w = .ok (.slice (some ⟨w.heap.size, 0, none⟩) 256 256) (w.alloc (.cells (row8 (List.replicate 256 0)) 5)) := by
  have h := run_mk8 256 (by decide) w
  rw [mk8_eq] at h
  have e : (List.replicate 256 (bv 0)).toArray = row8 (List.replicate 256 0) := by unfold row8; rw [List.map_replicate]
  rw [e] at h
  exact h

/-- Open of what is a block. -/
theorem open_yes (A : Option Addr) (len cap k : Nat) (bs body : List UInt8) (w : World) (hlen : bs.length = len) (hA : Bytes w A bs) (hlm : len ≤ cap) (hT : Tab w) (hb : IsBlk bs k body) :
    Calls Tryd.prog 16 #[.slice A len cap] w fun e w' => ∃ g, e = .returned (.tuple #[.int .u8 (k : Int), .slice (some ⟨g, 0, none⟩) body.length body.length, .int .i64 0]) ∧ w.heap.size ≤ g ∧ Blk w' g 5 (row8 body) ∧ Below w.heap.size w w' := by
  refine (open_any A len cap bs w hlen hA hlm hT).mono ?_
  rintro e w' ⟨⟨k', body', g, h1, rfl, h2, h3⟩ | ⟨h1, _⟩, h4⟩
  · obtain ⟨rfl, rfl⟩ := isBlk_one hb h1
    exact ⟨g, rfl, h2, h3, h4⟩
  · exact absurd hb (h1 _ _)
theorem open_no (A : Option Addr) (len cap : Nat) (bs : List UInt8) (w : World) (hlen : bs.length = len) (hA : Bytes w A bs) (hlm : len ≤ cap) (hT : Tab w) (hb : ∀ k body, ¬ IsBlk bs k body) :
    Calls Tryd.prog 16 #[.slice A len cap] w fun e w' => e = .returned (.tuple #[.int .u8 0, .slice none 0 0, .int .i64 8]) ∧ Below w.heap.size w w' := by
  refine (open_any A len cap bs w hlen hA hlm hT).mono ?_
  rintro e w' ⟨⟨k', body', g, h1, _⟩ | ⟨_, rfl⟩, h4⟩
  · exact absurd h1 (hb _ _)
  · exact ⟨rfl, h4⟩

set_option maxRecDepth 20000 in
set_option maxHeartbeats 1000000 in
theorem works_any (w : World) (hT : Tab w) : Calls Tryd.prog 9 #[] w fun e W' => e = .returned (.bool true) ∧ Below w.heap.size w W' := by
  have hb0 : Below w.heap.size w (w.alloc (.cells #[.int .u8 1, .int .u8 2] 5)) := (Below.refl _ w).alloc (Nat.le_refl _) _
  have hB : Bytes (w.alloc (.cells #[.int .u8 1, .int .u8 2] 5)) (some ⟨w.heap.size, 0, none⟩) [1, 2] := Bytes.row (Blk.new w 5 _)
  have H1 := Lib.hid (seal_yes 9 (some ⟨w.heap.size, 0, none⟩) 2 2 [1, 2] _ (by decide) (by decide) rfl (by decide) hB (hT.below hb0))
  have HB0 := Lib.hid hb0
  have HT := Lib.hid hT
  have hmk := run_mk256
  obtain ⟨z, hz⟩ : ∃ z, row8 (List.replicate 256 0) = z := ⟨_, rfl⟩
  rw [hz] at hmk
  have HZ := Lib.hid hz
  clear hb0 hB hT hz
  go_enter Tryd.func9, Tryd.ntmps9
  go_wp2_with fail
  refine H1.out.mono ?_
  rintro e w1 ⟨g, rfl, hg, hR, hb1⟩
  have hbl := HB0.out.trans (hb1.mono (by simp))
  have H2 := Lib.hid (open_yes (some ⟨g, 0, none⟩) 256 256 9 (blockOf 9 [1, 2]) [1, 2] w1 (blockOf_length 9 [1, 2] (by decide)) (Bytes.row hR) (Nat.le_refl _) (HT.out.below hbl) ⟨by decide, by decide, by decide, rfl⟩)
  have HB1 := Lib.hid hbl
  clear H1 hg hR hb1 hbl HB0
  go_wp2_with fail
  refine H2.out.mono ?_
  rintro e w2 ⟨g2, rfl, hg2, hR2, hb2⟩
  have hbl := HB1.out.trans (hb2.mono HB1.out.size)
  obtain ⟨w3, hw3⟩ : ∃ w3, w2.alloc (.cells z 5) = w3 := ⟨_, rfl⟩
  have hb3 : Below w.heap.size w w3 := by rw [← hw3]; exact hbl.alloc hbl.size _
  have hB3 : Bytes w3 (some ⟨w2.heap.size, 0, none⟩) (List.replicate 256 0) := by rw [← hw3, ← HZ.out]; exact Bytes.row (Blk.new w2 5 _)
  have H3 := Lib.hid (open_no (some ⟨w2.heap.size, 0, none⟩) 256 256 _ w3 (by simp) hB3 (Nat.le_refl _) (HT.out.below hb3) not_blank)
  have hc2 : w3.cell? ⟨g2, 1, none⟩ = some (.int .u8 2) := by
    rw [← hw3]
    exact (hR2.alloc (.cells z 5)).cell 1
  have HC2 := Lib.hid (And.intro hc2 (World.block_lt_of_cell? w3 _ hc2))
  have HB3 := Lib.hid hb3
  clear H2 hg2 hR2 hb2 hbl hB3 hb3 hc2
  go_wp2_with fail
  refine H3.out.mono ?_
  rintro e w4 ⟨rfl, hb4⟩
  have hc4 : w4.cell? ⟨g2, 1, none⟩ = some (.int .u8 2) := (hb4.cell (p := ⟨g2, 1, none⟩) HC2.out.2).trans HC2.out.1
  have HB4 := Lib.hid (HB3.out.trans (hb4.mono HB3.out.size))
  clear H3 hb4
  go_wp2_with fail
  go_ret
  exact ⟨rfl, HB4.out⟩

end Go.Proofs.YtlgoacpmacomnaaDoor
