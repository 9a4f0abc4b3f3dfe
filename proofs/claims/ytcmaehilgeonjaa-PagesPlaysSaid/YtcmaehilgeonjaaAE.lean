/- pages: the reference's Lay: what it lays, apart from memory; the refusals. -/
import Derived.Test.YtcmaehilgeonjaaAC
namespace Go.Proofs.Ytcmaehilgeonjaa
open Go.RowKit Pgs
namespace Pgs
/-- What a part is laidP as. -/
def laidP (bs : List UInt8) : List Nat := said bs ++ List.replicate (124 - bs.length / 2) 0
theorem laidP_len {bs : List UInt8} {n : Nat} (hl : bs.length = 2 * n) (hn : n ≤ 124) : (laidP bs).length = 124 := by
  unfold laidP
  rw [List.length_append, said_len, List.length_replicate]; omega
/-- A map of which k numbers were laidP. -/
def midL (L : List Nat) (i : Nat) (bs : List UInt8) (k : Nat) : List Nat := L.take (i * 124) ++ (laidP bs).take k ++ L.drop (i * 124 + k)
theorem midL_get {L : List Nat} {bs : List UInt8} {n i k : Nat} (hL : L.length = 1116) (hi : i < 9) (hl : bs.length = 2 * n) (hn : n ≤ 124) (hk : k ≤ 124) (j : Nat) :
    (midL L i bs k)[j]? = if i * 124 ≤ j ∧ j < i * 124 + k then (laidP bs)[j - i * 124]? else L[j]? := by
  have hl2 := laidP_len hl hn
  have h1 : (L.take (i * 124)).length = i * 124 := by rw [List.length_take]; omega
  have h2 : ((laidP bs).take k).length = k := by rw [List.length_take]; omega
  unfold midL
  by_cases e1 : j < i * 124
  · rw [if_neg (by omega), List.getElem?_append_left (by rw [List.length_append]; omega), List.getElem?_append_left (by omega), List.getElem?_take_of_lt e1]
  · by_cases e2 : j < i * 124 + k
    · rw [if_pos (by omega), List.getElem?_append_left (by rw [List.length_append]; omega), List.getElem?_append_right (by omega), h1, List.getElem?_take_of_lt (by omega)]
    · rw [if_neg (by omega), List.getElem?_append_right (by rw [List.length_append]; omega), List.length_append, h1, h2, List.getElem?_drop, show i * 124 + k + (j - (i * 124 + k)) = j by omega]
theorem midL_zero (L : List Nat) (i : Nat) (bs : List UInt8) : midL L i bs 0 = L := by
  unfold midL
  rw [List.take_zero, List.append_nil, Nat.add_zero, List.take_append_drop]
theorem midL_len {L : List Nat} {bs : List UInt8} {n i k : Nat} (hL : L.length = 1116) (hi : i < 9) (hl : bs.length = 2 * n) (hn : n ≤ 124) (hk : k ≤ 124) : (midL L i bs k).length = 1116 := by
  have hl2 := laidP_len hl hn
  unfold midL
  rw [List.length_append, List.length_append, List.length_take, List.length_take, List.length_drop]; omega
theorem midL_succ {L : List Nat} {bs : List UInt8} {n i k x : Nat} (hL : L.length = 1116) (hi : i < 9) (hl : bs.length = 2 * n) (hn : n ≤ 124) (hk : k < 124) (hx : (laidP bs)[k]? = some x) : (midL L i bs k).set (i * 124 + k) x = midL L i bs (k + 1) := by
  apply List.ext_getElem?
  intro j
  rw [midL_get hL hi hl hn hk]
  by_cases e : j = i * 124 + k
  · subst e
    rw [List.getElem?_set_self (by rw [midL_len hL hi hl hn (Nat.le_of_lt hk)]; omega), if_pos (by omega), show i * 124 + k - i * 124 = k by omega, hx]
  · rw [List.getElem?_set_ne (fun e' => e e'.symm), midL_get hL hi hl hn (Nat.le_of_lt hk)]
    by_cases e1 : i * 124 ≤ j ∧ j < i * 124 + k
    · rw [if_pos e1, if_pos (by omega)]
    · rw [if_neg e1, if_neg (by omega)]
theorem midL_end {L : List Nat} {bs : List UInt8} {n i k : Nat} (h : Ok L) (hi : i < 9) (hl : bs.length = 2 * n) (hn : n ≤ 124) (hk : k ≤ 124) (he : k < 124 → i * 124 + k = 1024) (hp : i * 124 + n ≤ 1024) (hb : layB (i : Int) bs = true) : midL L i bs k = layL L (i : Int) bs := by
  have e0 : layL L (i : Int) bs = midL L i bs 124 := by
    unfold layL midL
    rw [if_pos hb, Int.toNat_natCast, List.take_of_length_le (l := laidP bs) (by rw [laidP_len hl hn]; exact Nat.le_refl _)]; rfl
  rw [e0]
  by_cases hk4 : k = 124
  · rw [hk4]
  · have hk5 := he (by omega)
    apply List.ext_getElem?
    intro j
    rw [midL_get h.len hi hl hn hk, midL_get h.len hi hl hn (Nat.le_refl _)]
    by_cases e1 : i * 124 ≤ j ∧ j < i * 124 + k
    · rw [if_pos e1, if_pos (by omega)]
    · rw [if_neg e1]
      by_cases e2 : i * 124 ≤ j ∧ j < i * 124 + 124
      · rw [if_pos e2]
        have := h.end_ j (by omega)
        have hj : j < L.length := by rw [h.len]; omega
        rw [List.getD_eq_getElem?_getD, List.getElem?_eq_getElem hj, Option.getD_some] at this
        rw [List.getElem?_eq_getElem hj, this]
        unfold laidP
        rw [List.getElem?_append_right (by rw [said_len]; omega), List.getElem?_replicate, if_pos (by rw [said_len]; omega)]
      · rw [if_neg e2]
theorem said_at (bs : List UInt8) {k n : Nat} (hl : bs.length = 2 * n) (hk : k < n) : (said bs)[k]? = some ((bs.getD (2 * k) 0).toNat + 256 * (bs.getD (2 * k + 1) 0).toNat) := by
  unfold said
  rw [List.getElem?_map, List.getElem?_range (by omega)]; rfl
end Pgs
theorem said_cells {w : World} {A : Option Addr} {bs : List UInt8} (hA : Bytes w A bs) {k n : Nat} (hl : bs.length = 2 * n) (hk : k < n) :
    ∃ (b off y0 y1 : Nat), A = some ⟨b, off, none⟩ ∧ b < w.heap.size ∧ y0 < 256 ∧ y1 < 256 ∧ (said bs)[k]? = some (y0 + 256 * y1) ∧ w.cell? ⟨b, off + 2 * k, none⟩ = some (.int .u8 (y0 : Int)) ∧ w.cell? ⟨b, off + (2 * k + 1), none⟩ = some (.int .u8 (y1 : Int)) := by
  have e0 : ∀ j, j < bs.length → bs[j]? = some (bs.getD j 0) := fun j hj => by rw [List.getD_eq_getElem?_getD, List.getElem?_eq_getElem hj]; rfl
  obtain ⟨b, off, e, hb, hc0⟩ := hA _ _ (e0 (2 * k) (by omega))
  obtain ⟨b', off', e', _, hc1⟩ := hA _ _ (e0 (2 * k + 1) (by omega))
  rw [e] at e'
  cases e'
  exact ⟨b, off, _, _, e, hb, (bs.getD (2 * k) 0).toNat_lt, (bs.getD (2 * k + 1) 0).toNat_lt, said_at bs hl hk, hc0, hc1⟩

set_option maxRecDepth 20000 in
set_option maxHeartbeats 1000000 in
theorem rlay_out (g : Nat) (i : Int) (A : Option Addr) (n c : Nat) (w : World) (h : ¬ (0 ≤ i ∧ i < 9)) : Calls Try.prog 33 #[.pointer (some ⟨g, 0, none⟩), .int .i64 i, .slice A n c] w fun e w' => e = .returned (.bool false) ∧ w = w' := by
  by_cases h0 : i < 0
  · have hd : decide (i < 0) = true := by simpa using h0
    clear h
    go_enter Try.func33, Try.ntmps33
    go_wp2_with fail
    go_ret
    exact ⟨rfl, rfl⟩
  · have hd : decide (i < 0) = false := by simpa using h0
    have hd2 : decide (i ≥ 9) = true := by simp; omega
    clear h h0
    go_enter Try.func33, Try.ntmps33
    go_wp2_with fail
    go_ret
    exact ⟨rfl, rfl⟩
set_option maxRecDepth 20000 in
set_option maxHeartbeats 1000000 in
theorem rlay_long (g i : Nat) (A : Option Addr) (n c : Nat) (w : World) (hi : i < 9) (hn : 248 < n) : Calls Try.prog 33 #[.pointer (some ⟨g, 0, none⟩), .int .i64 (i : Int), .slice A n c] w fun e w' => e = .returned (.bool false) ∧ w = w' := by
  have hd1 : decide ((i : Int) < 0) = false := by simp
  have hd2 : decide ((i : Int) ≥ 9) = false := by simp; omega
  have hd3 : decide ((n : Int) > 248) = true := by simp; omega
  clear hi hn
  go_enter Try.func33, Try.ntmps33
  go_wp2_with fail
  go_ret
  exact ⟨rfl, rfl⟩
set_option maxRecDepth 20000 in
set_option maxHeartbeats 1000000 in
theorem rlay_odd (g i : Nat) (A : Option Addr) (n c : Nat) (w : World) (hi : i < 9) (hn : n ≤ 248) (ho : n % 2 ≠ 0) : Calls Try.prog 33 #[.pointer (some ⟨g, 0, none⟩), .int .i64 (i : Int), .slice A n c] w fun e w' => e = .returned (.bool false) ∧ w = w' := by
  have hd1 : decide ((i : Int) < 0) = false := by simp
  have hd2 : decide ((i : Int) ≥ 9) = false := by simp; omega
  have hd3 : decide ((n : Int) > 248) = false := by simp; omega
  have ht : (n : Int).tmod 2 = 1 := by rw [Int.tmod_eq_emod_of_nonneg (by omega)]; omega
  clear hi hn ho
  go_enter Try.func33, Try.ntmps33
  go_wp2_with fail
  go_ret
  exact ⟨rfl, rfl⟩
set_option maxRecDepth 20000 in
set_option maxHeartbeats 1000000 in
theorem rlay_zero (g i n c : Nat) (A : Option Addr) (bs : List UInt8) (w : World) (hi : i < 9) (hn : n ≤ 124) (h0 : 0 < n) (hl : bs.length = 2 * n) (hA : Bytes w A bs) (hz : (said bs)[n - 1]? = some 0) :
    Calls Try.prog 33 #[.pointer (some ⟨g, 0, none⟩), .int .i64 (i : Int), .slice A (2 * n) c] w fun e w' => e = .returned (.bool false) ∧ w = w' := by
  have hd1 : decide ((i : Int) < 0) = false := by simp
  have hd2 : decide ((i : Int) ≥ 9) = false := by simp; omega
  have hd3 : decide (((2 * n : Nat) : Int) > 248) = false := by simp; omega
  have ht : ((2 * n : Nat) : Int).tmod 2 = 0 := by rw [Int.tmod_eq_emod_of_nonneg (by omega)]; omega
  have hd4 : decide (((2 * n : Nat) : Int) > 0) = true := by simp; omega
  obtain ⟨b, off, y0, y1, rfl, _, _, _, hs, c0, c1⟩ := said_cells hA hl (show n - 1 < n by omega)
  rw [hz] at hs
  have hs0 := Option.some.inj hs
  obtain rfl : y0 = 0 := by omega
  obtain rfl : y1 = 0 := by omega
  obtain ⟨l, hll⟩ : ∃ l, 2 * n = l := ⟨_, rfl⟩
  obtain ⟨p0, hp0⟩ : ∃ p0, 2 * (n - 1) = p0 := ⟨_, rfl⟩
  obtain ⟨p1, hp1⟩ : ∃ p1, 2 * (n - 1) + 1 = p1 := ⟨_, rfl⟩
  rw [hp1] at c1
  rw [hp0] at c0
  rw [hll] at hd3 ht hd4 ⊢
  have e1 : (l : Int) - 1 = (p1 : Int) := by omega
  have e2 : (l : Int) - 2 = (p0 : Int) := by omega
  have l1 : (p1 : Int) < (l : Int) := by omega
  have l0 : (p0 : Int) < (l : Int) := by omega
  have b1 : p1 ≤ 248 := by omega
  have b0 : p0 ≤ 248 := by omega
  have bl : l ≤ 248 := by omega
  clear hi hn hA hz hs hs0 hll hp0 hp1
  go_enter Try.func33, Try.ntmps33
  go_wp2_with fail
  go_ret
  exact ⟨rfl, rfl⟩
end Go.Proofs.Ytcmaehilgeonjaa
