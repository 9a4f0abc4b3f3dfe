/- A sector with a right sum. -/
import Derived.Test.YtlgoacpmacomnaaDoorBack
import Derived.Test.YtlgoacpmacomnaaDoorCE
namespace Go.Proofs.YtlgoacpmacomnaaDoor
open Go.RowKit Crc

/-- The front of some bytes, with its sum behind. -/
def resum (cs : List UInt8) : List UInt8 := cs.take 252 ++ lePut (sumFrom 0 (cs.take 252)) 4
theorem resum_length {cs : List UInt8} (h : cs.length = 256) : (resum cs).length = 256 := by simp [resum, lePut_length, h]
theorem resum_get {cs : List UInt8} (h : cs.length = 256) {i : Nat} (hi : i < 252) : (resum cs).getD i 0 = cs.getD i 0 := by
  unfold resum
  rw [getD_left (by simp; omega)]
  simp only [List.getD]
  rw [List.getElem?_take_of_lt hi]
theorem resum_take {cs : List UInt8} (h : cs.length = 256) : (resum cs).take 252 = cs.take 252 := by
  unfold resum
  exact List.take_left' (by simp; omega)
theorem resum_sum {cs : List UInt8} (h : cs.length = 256) : leN (fieldOf (resum cs) 252 4) = sumFrom 0 ((resum cs).take 252) := by
  rw [resum_take h]
  unfold resum fieldOf
  rw [List.drop_left' (by simp; omega), List.take_of_length_le (by rw [lePut_length]; exact Nat.le_refl _), le4_put _ (sumFrom_lt (x := 0) (by decide) _)]
theorem resum_field {cs : List UInt8} (h : cs.length = 256) {n : Nat} (hn : n ≤ 248) : fieldOf (resum cs) 4 n = fieldOf cs 4 n := by
  have e : ∀ l : List UInt8, fieldOf l 4 n = fieldOf (l.take 252) 4 n := fun l => by
    unfold fieldOf
    rw [List.drop_take, List.take_take, Nat.min_eq_left (by omega)]
  rw [e, resum_take h, ← e]

theorem fits_resum {cs : List UInt8} (h : cs.length = 256) (n : Nat) : Fits (resum cs) n ↔ cs.getD 0 0 ≠ 0 ∧ cs.getD 1 0 = 0 ∧ n = (cs.getD 2 0).toNat + 256 * (cs.getD 3 0).toNat ∧ n ≤ 248 ∧ ∀ i, 4 + n ≤ i → i < 252 → cs.getD i 0 = 0 := by
  have g := fun i (hi : i < 252) => resum_get h hi
  constructor
  · intro f
    refine ⟨?_, ?_, ?_, f.le, fun i h1 h2 => ?_⟩
    · rw [← g 0 (by decide)]; exact f.kind
    · rw [← g 1 (by decide)]; exact f.zero
    · rw [← g 2 (by decide), ← g 3 (by decide)]; exact f.n_eq
    · rw [← g i h2]; exact f.fill i h1 h2
  · rintro ⟨h0, h1, h2, h3, h4⟩
    refine ⟨resum_length h, ?_, ?_, ?_, h3, fun i a b => ?_, resum_sum h⟩
    · rw [g 0 (by decide)]; exact h0
    · rw [g 1 (by decide)]; exact h1
    · rw [g 2 (by decide), g 3 (by decide)]; exact h2
    · rw [g i b]; exact h4 i a b

theorem set_get (l : List UInt8) (k : Nat) (v : UInt8) (hk : k < l.length) (i : Nat) : (l.set k v).getD i 0 = if i = k then v else l.getD i 0 := by
  simp only [List.getD, List.getElem?_set]
  by_cases e : k = i
  · subst e; simp [hk]
  · rw [if_neg e, if_neg (fun h => e h.symm)]

/-- Which forms a turned block has, with a right sum. -/
structure Forms (body : List UInt8) (k : Nat) (v : UInt8) (cs : List UInt8) : Prop where
  zero : k = 0 → ∀ n, Fits (resum cs) n ↔ v ≠ 0 ∧ n = body.length
  one : k = 1 → ∀ n, Fits (resum cs) n ↔ v = 0 ∧ n = body.length
  size : k = 2 ∨ k = 3 → ∀ n, Fits (resum cs) n ↔ n = (cs.getD 2 0).toNat + 256 * (cs.getD 3 0).toNat ∧ n ≤ 248 ∧ ∀ i, 4 + n ≤ i → i < 252 → cs.getD i 0 = 0
  mid : 4 ≤ k → k < 4 + body.length → ∀ n, Fits (resum cs) n ↔ n = body.length
  far : 4 + body.length ≤ k → ∀ n, Fits (resum cs) n ↔ v = 0 ∧ n = body.length

theorem forms_any (body : List UInt8) (k : Nat) (v : UInt8) (hb : body.length ≤ 248) (hk : k < 252) : Forms body k v ((blockOf 7 body).set k v) := by
  have hl := blockOf_length 7 body hb
  have g := set_get (blockOf 7 body) k v (by omega)
  have b := fun i => blockOf_get 7 body i hb
  have e0 : (blockOf 7 body).getD 0 0 = 7 := by rw [b]; rfl
  have e1 : (blockOf 7 body).getD 1 0 = 0 := by rw [b]; rfl
  have e2 : (blockOf 7 body).getD 2 0 = UInt8.ofNat body.length := by rw [b]; rfl
  have e3 : (blockOf 7 body).getD 3 0 = UInt8.ofNat (body.length / 256) := by rw [b]; rfl
  have en : body.length = ((blockOf 7 body).getD 2 0).toNat + 256 * ((blockOf 7 body).getD 3 0).toNat := by
    rw [e2, e3, UInt8.toNat_ofNat', UInt8.toNat_ofNat']; omega
  have ef : ∀ i, 4 + body.length ≤ i → i < 252 → (blockOf 7 body).getD i 0 = 0 := fun i h1 h2 => by rw [b, if_neg (by omega), if_neg (by omega), if_pos h2]
  have hlc : ((blockOf 7 body).set k v).length = 256 := by rw [List.length_set]; exact hl
  have fr := fun n => fits_resum hlc n
  refine ⟨fun h n => ?_, fun h n => ?_, fun h n => ?_, fun h h' n => ?_, fun h n => ?_⟩
  · subst h
    rw [fr, g 0, g 1, g 2, g 3, if_pos rfl, if_neg (by decide), if_neg (by decide), if_neg (by decide), e1, ← en]
    constructor
    · rintro ⟨h0, _, h2, _⟩; exact ⟨h0, h2⟩
    · rintro ⟨h0, rfl⟩; exact ⟨h0, rfl, rfl, hb, fun i a c => by rw [g, if_neg (by omega)]; exact ef i a c⟩
  · subst h
    rw [fr, g 0, g 1, g 2, g 3, if_pos rfl, if_neg (by decide), if_neg (by decide), if_neg (by decide), e0, ← en]
    constructor
    · rintro ⟨_, h0, h2, _⟩; exact ⟨h0, h2⟩
    · rintro ⟨h0, rfl⟩; exact ⟨by decide, h0, rfl, hb, fun i a c => by rw [g, if_neg (by omega)]; exact ef i a c⟩
  · rw [fr, g 0, g 1, if_neg (by omega), if_neg (by omega), e0, e1]
    constructor
    · rintro ⟨_, _, h2⟩; exact h2
    · intro h2; exact ⟨by decide, rfl, h2⟩
  · rw [fr, g 0, g 1, g 2, g 3, if_neg (by omega), if_neg (by omega), if_neg (by omega), if_neg (by omega), e0, e1, ← en]
    constructor
    · rintro ⟨_, _, h2, _⟩; exact h2
    · rintro rfl; exact ⟨by decide, rfl, rfl, hb, fun i a c => by rw [g, if_neg (by omega)]; exact ef i a c⟩
  · rw [fr, g 0, g 1, g 2, g 3, if_neg (by omega), if_neg (by omega), if_neg (by omega), if_neg (by omega), e0, e1, ← en]
    constructor
    · rintro ⟨_, _, rfl, _, h4⟩
      have := h4 k h hk
      rw [g, if_pos rfl] at this
      exact ⟨this, rfl⟩
    · rintro ⟨rfl, rfl⟩
      exact ⟨by decide, rfl, rfl, hb, fun i a c => by
        rw [g]
        split
        · rfl
        · exact ef i a c⟩

theorem refsum_any (A : Option Addr) (n cap : Nat) (bs : List UInt8) (w : World) (hn : bs.length = n) (hA : Bytes w A bs) (hl : n ≤ 4096) :
    Calls Tryd.prog 28 #[.slice A n cap] w fun e w' => e = .returned (.int .u32 (sumFrom 0 bs : Int)) ∧ Below w.heap.size w w' := by
  have H := Lib.hid (refext_any A n cap 0 bs w hn hA hl (by decide))
  clear hA hn
  go_enter Tryd.func28, Tryd.ntmps28
  go_wp2_with fail
  refine H.out.mono ?_
  rintro e w1 ⟨rfl, hb⟩
  have HB := Lib.hid hb
  clear hb
  go_wp2_with fail
  go_ret
  exact ⟨rfl, HB.out⟩

end Go.Proofs.YtlgoacpmacomnaaDoor
