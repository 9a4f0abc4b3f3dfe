/- HeapFills: its states, apart from memory. -/
import Derived.Test.YtclkkfffecmjnaaAh
import Derived.Test.YtclkkfffecmjnaaAm
namespace Go.Proofs.Ytclkkfffecmjnaa
open Go.RowKit
set_option linter.unusedVariables false
namespace Fl
def stb (x : Nat) : Ob := ⟨8, (x : Int), [], []⟩
def s1 (m x : Nat) : HS := ⟨m, 1, 1, [⟨1, stb x, false⟩], [(1, x)]⟩
def s2 (m x : Nat) (o : Ob) : HS := ⟨m, Hp.sizeO o, 1, [⟨1, o, false⟩], [(1, x)]⟩
def s3 (m x : Nat) (o : Ob) : HS := ⟨m, Hp.sizeO o, 1, [⟨1, { o with ws := o.ws.set 0 ⟨1, 3⟩ }, true⟩], [(1, x)]⟩
theorem mayS {x : Nat} (h : 1 ≤ x ∧ x ≤ 16384) : Hp.mayO (stb x) = true := by
  unfold Hp.mayO stb Hp.kindO
  simp
  omega
theorem al1 {m x : Nat} (hm : 1 ≤ m) (h : 1 ≤ x ∧ x ≤ 16384) : allocF (newH m) (stb x) = (s1 m x, 1, 0) := by
  unfold allocF
  rw [mayS h, if_neg (by simp), if_neg (by rintro ⟨_, h2⟩; simp [newH, HS.ofOid] at h2)]
  have e : Hp.sizeO (stb x) = 1 := by unfold Hp.sizeO stb; rfl
  rw [if_neg (by rw [e]; show ¬ (m - 0 < 1); omega)]
  have : allocH (newH m) (stb x) = s1 m x := by
    unfold allocH newH s1
    rw [e]
    have h8 : (stb x).k = 8 := rfl
    rw [if_pos h8]
    have : (stb x).tag.toNat = x := by unfold stb; simp
    rw [this]
    rfl
  rw [this]; rfl
theorem al2 {m x : Nat} (h : 1 ≤ x ∧ x ≤ 16384) : allocF (s1 m x) (stb x) = (s1 m x, 0, 3) := by
  unfold allocF
  rw [mayS h, if_neg (by simp), if_pos ⟨rfl, by simp [s1, HS.ofOid, stb]⟩]
theorem ob1 (m x : Nat) : (s1 m x).obj 1 = some ⟨1, stb x, false⟩ := by simp [s1, HS.obj]
theorem ob2 (m x : Nat) : (s1 m x).obj 2 = none := by simp [s1, HS.obj]
theorem fl1 {m x : Nat} {o : Ob} (h : fillB o = false) : fillF (s1 m x) 1 o = (s1 m x, 1) := by
  unfold fillF
  rw [ob1]
  dsimp only
  rw [if_neg (by simp [stb]), if_pos h]
theorem fl6 {m x : Nat} {o : Ob} (h : fillB o = true) (hs : m < Hp.sizeO o) : fillF (s1 m x) 1 o = (s1 m x, 6) := by
  unfold fillF
  rw [ob1]
  dsimp only
  rw [if_neg (by simp [stb]), if_neg (by simp [h]), if_pos (by show m - (1 - 1) < _; omega)]
theorem fl0 {m x : Nat} {o : Ob} (h : fillB o = true) (hs : Hp.sizeO o ≤ m) : fillF (s1 m x) 1 o = (s2 m x o, 0) := by
  unfold fillF
  rw [ob1]
  dsimp only
  rw [if_neg (by simp [stb]), if_neg (by simp [h]), if_neg (by show ¬ (m - (1 - 1) < _); omega)]
  have : fillH (s1 m x) ⟨1, stb x, false⟩ o = s2 m x o := by
    unfold fillH s1 s2 updL
    simp
  rw [this]
theorem ob2' (m x : Nat) (o : Ob) : (s2 m x o).obj 1 = some ⟨1, o, false⟩ := by simp [s2, HS.obj]
theorem oid2 (m x : Nat) (o : Ob) : (s2 m x o).oidOf 1 = some x := by simp [s2, HS.oidOf]
theorem get2 (m x : Nat) (o : Ob) : getO (s2 m x o) 1 = o := by unfold getO; rw [ob2']
theorem dr2 (m x : Nat) (o : Ob) : dirtyL (s2 m x o) = [] := by simp [s2, dirtyL]
theorem set2 {m x : Nat} {o : Ob} (hs : setsO o = true) (hl : 0 < o.ws.length) : setF (s2 m x o) 1 0 ⟨1, 3⟩ = (s3 m x o, true) := by
  unfold setF
  rw [ob2']
  dsimp only
  rw [if_neg (by rw [hs]; simp [Hp.wordOk]; intro e; rw [e] at hl; simp at hl)]
  have : setH (s2 m x o) ⟨1, o, false⟩ (0 : Int).toNat ⟨1, 3⟩ = s3 m x o := by
    unfold setH
    rw [show (((⟨1, o, false⟩ : Ho).h : Nat) : Int) = 1 from rfl, oid2]
    unfold s2 s3 updL
    simp
  rw [this]
theorem set2n {m x : Nat} {o : Ob} (hs : setsO o = false ∨ o.ws.length = 0) : setF (s2 m x o) 1 0 ⟨1, 3⟩ = (s2 m x o, false) := by
  unfold setF
  rw [ob2']
  dsimp only
  rw [if_pos]
  rcases hs with hs | hs
  · exact .inl hs
  · exact .inr (.inr (.inl (by rw [hs]; exact Int.le_refl _)))
theorem dr3 (m x : Nat) (o : Ob) : dirtyL (s3 m x o) = [1] := by simp [s3, dirtyL]
end Fl
section
variable {w0 w : World} {X : Nat → Prop} {g t : Nat} {H : HS}
theorem fill_hr_err (h : HR w0 w X g t H) (k : Int) (hk : (Lit.int .i64 k).wf = true) (o : Ob) (A : Option Addr) (c : Nat) (hx : H.obj k = none ∨ ∃ x, H.obj k = some x ∧ x.o.k ≠ 8) :
    Calls Try.prog 37 #[.pointer (some ⟨g, 0, none⟩), .int .i64 k, obv o A c] w fun e w' => e = .returned (.int .i64 ((fillF H k o).2 : Int)) ∧ HR w0 w' X g t H ∧ Keep X w w' := by
  have h0 := h
  obtain ⟨⟨M, n, hm, rfl, hn, hf⟩, hl, hbe, hok⟩ := h
  unfold fillF
  rcases hx with hx | ⟨x, hx, h8⟩
  · rw [hx]
    refine (fill_none hm k hk o A c hx).mono ?_
    rintro e w' ⟨rfl, hb⟩
    exact ⟨rfl, h0.below hb⟩
  · rw [hx]
    dsimp only
    rw [if_pos h8]
    refine (fill_state hm k hk o A c hx h8).mono ?_
    rintro e w' ⟨rfl, hb⟩
    exact ⟨rfl, h0.below hb⟩
end
end Go.Proofs.Ytclkkfffecmjnaa
