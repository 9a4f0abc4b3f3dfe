/- cover: CoverFits, apart from memory, and its rows. -/
import Derived.Test.YtigaondgopahgaaAp
namespace Go.Proofs.Ytigaondgopahgaa
open Go.RowKit Ty
set_option linter.unusedVariables false
set_option linter.unusedSimpArgs false
def pNone : Ty := .node 6 [78, 111, 110, 101] 0 []
def pE : Ty := .node 6 [69] 0 []
def pCons : Ty := .node 6 [67, 111, 110, 115] 0 [any]
def tup (ks : List Ty) : Ty := .node 5 [] 0 ks
def someT (t : Ty) : Ty := .node 6 [83, 111, 109, 101] 0 [t]
def lF : List Ty := [.node 3 [] 0 [], .node 4 [] 0 [], tup [any, any], tup [any, any, any], pT, pNone, pE, pCons]
def itF (f : Ty → Ty) : Nat → Ty → Ty
  | 0, t => t
  | d + 1, t => f (itF f d t)
def cF : Ty := .node 6 [116, 114, 117, 101] 0 [any]
def dF : Ty := .node 6 [83, 111, 109, 101] 0 []
def zF : Ty := .node 6 [90] 0 []
def lFn (i : Nat) : Ty := (lF[i]?).getD any
theorem fits_e : ∀ i, i < 8 → ∀ j, j < 8 → ∀ d, d < 9 → told infosL [itF someT d (lFn i), itF someT d (lFn j)] false = if i = j then 4 else 3 := by decide +kernel
theorem fits_f : ∀ d, d < 9 → told infosL [itF (fun c => tup [any, c]) d cF] false = 3 := by decide +kernel
theorem fits_g : ∀ d, d < 9 → told infosL [itF someT d dF] false = 3 := by decide +kernel
theorem fits_h : ∀ i, i < 8 → ∀ j, j < 8 → ∀ d, d < 9 → told infosL [itF someT d (lFn i), itF someT d (lFn j), itF someT d zF] false = 2 := by decide +kernel
theorem fits_k : told infosL [.node 7 [] 0 []] false = 3 := by decide +kernel
theorem fits_m : told infosL [tup [any]] false = 3 := by decide +kernel
/-- A box that holds a pattern; none of what is in it lies in X, the boxes. -/
structure BxP (X : Nat → Prop) (w : World) (q : Nat) (t : Ty) (A : Option Addr) (c tl : Nat) : Prop where
  blk : Blk w q 40 #[.int .u8 (t.k : Int), .string (str t.nm), .int .i64 t.n, .slice A tl c]
  len : t.ks.length = tl
  in_ : Te.in_ (fun b => ¬ X b) w ⟨t, A, c⟩
section
variable {X : Nat → Prop} {w w' : World} {q c tl : Nat} {t : Ty} {A : Option Addr}
theorem BxP.bel (h : BxP X w q t A c tl) (hb : Below w.heap.size w w') : BxP X w' q t A c tl := ⟨h.blk.below hb h.blk.lt, h.len, h.in_.bel hb⟩
theorem BxP.store (h : BxP X w q t A c tl) (hX : X q) (t2 : Ty) (A2 : Option Addr) (c2 tl2 : Nat) (hl : t2.ks.length = tl2) (hin : Te.in_ (fun b => ¬ X b) w ⟨t2, A2, c2⟩) {w3 : World} (h3 : (((w.setCell ⟨q, 0, none⟩ (.int .u8 (t2.k : Int))).setCell ⟨q, 1, none⟩ (.string (str t2.nm))).setCell ⟨q, 2, none⟩ (.int .i64 t2.n)).setCell ⟨q, 3, none⟩ (.slice A2 tl2 c2) = w3) :
    BxP X w3 q t2 A2 c2 tl2 ∧ Off (fun k => k = q) w w3 := by
  have ho := off4 w q (.int .u8 (t2.k : Int)) (.string (str t2.nm)) (.int .i64 t2.n) (.slice A2 tl2 c2)
  have hb := h.blk.set4 (.int .u8 (t2.k : Int)) (.string (str t2.nm)) (.int .i64 t2.n) (.slice A2 tl2 c2)
  rw [h3] at ho hb
  exact ⟨⟨hb, hl, hin.off ho fun b hb e => hb (e ▸ hX)⟩, ho⟩
theorem BxP.off (h : BxP X w q t A c tl) {q2 : Nat} (ho : Off (fun k => k = q2) w w') (hX : X q2) (hq : q ≠ q2) : BxP X w' q t A c tl :=
  ⟨h.blk.off ho hq, h.len, h.in_.off ho fun b hb e => hb (e ▸ hX)⟩
/-- A pattern in a row of its own. -/
theorem BxP.one (h : BxP X w q t A c tl) {g : Nat} (hb : Below w.heap.size w w') (hB : Blk w' g 40 #[.int .u8 (t.k : Int), .string (str t.nm), .int .i64 t.n, .slice A tl c]) (hg : ¬ X g) : Ty.At (fun b => ¬ X b) w' (some ⟨g, 0, none⟩) [t] := by
  obtain ⟨h1, h2, h3, h4⟩ := h.in_.bel hb
  exact At_single hB h.len h1 h2 h3 h4 hg
end
theorem ok_some (t : Ty) : (someT t).ok := ⟨(by show 6 < 256; decide), ⟨(by show (-9223372036854775808 : Int) ≤ 0; decide), (by show (0 : Int) < 9223372036854775808; decide)⟩, (by show 4 ≤ maxLen; decide)⟩
theorem ok_tup (ks : List Ty) : (tup ks).ok := ⟨(by show 5 < 256; decide), ⟨(by show (-9223372036854775808 : Int) ≤ 0; decide), (by show (0 : Int) < 9223372036854775808; decide)⟩, (by show 0 ≤ maxLen; decide)⟩
/-- Two patterns in a row. -/
theorem At_two {F : Nat → Prop} {w : World} {g : Nat} {e f : Te} (hB : Blk w g 40 (flatE [e, f]).toArray) (he : e.in_ F w) (hf : f.in_ F w) (hF : F g) : Ty.At F w (some ⟨g, 0, none⟩) [e.t, f.t] :=
  At_blk (es := [e, f]) hB (fun i v hv => by rw [List.getElem?_toArray]; exact hv) (fun x hx => by
    rcases List.mem_cons.1 hx with rfl | hx
    · exact he
    · rw [List.mem_singleton.1 hx]; exact hf) hF
theorem At_three {F : Nat → Prop} {w : World} {g : Nat} {e f h : Te} (hB : Blk w g 40 (flatE [e, f, h]).toArray) (he : e.in_ F w) (hf : f.in_ F w) (hh : h.in_ F w) (hF : F g) : Ty.At F w (some ⟨g, 0, none⟩) [e.t, f.t, h.t] :=
  At_blk (es := [e, f, h]) hB (fun i v hv => by rw [List.getElem?_toArray]; exact hv) (fun x hx => by
    rcases List.mem_cons.1 hx with rfl | hx
    · exact he
    · rcases List.mem_cons.1 hx with rfl | hx
      · exact hf
      · rw [List.mem_singleton.1 hx]; exact hh) hF
/-- The five boxes. -/
def X5 (qa qb qc qd qz : Nat) : Nat → Prop := fun b => b = qa ∨ b = qb ∨ b = qc ∨ b = qd ∨ b = qz
/-- The boxes, and what they hold. -/
structure FtP (w wr : World) (qa qb qc qd qz : Nat) (pa pb pc pd pz : Ty) : Prop where
  bel : Below w.heap.size w wr
  lo : w.heap.size ≤ qa ∧ qa < qb ∧ qb < qc ∧ qc < qd ∧ qd < qz ∧ qz < wr.heap.size
  ba : ∃ A c tl, BxP (X5 qa qb qc qd qz) wr qa pa A c tl
  bb : ∃ A c tl, BxP (X5 qa qb qc qd qz) wr qb pb A c tl
  bc : ∃ A c tl, BxP (X5 qa qb qc qd qz) wr qc pc A c tl
  bd : ∃ A c tl, BxP (X5 qa qb qc qd qz) wr qd pd A c tl
  bz : ∃ A c tl, BxP (X5 qa qb qc qd qz) wr qz pz A c tl
section
variable {w wr w2 w3 : World} {qa qb qc qd qz : Nat} {pa pb pc pd pz : Ty}
theorem FtP.next (h : FtP w wr qa qb qc qd qz pa pb pc pd pz) (hb : Below wr.heap.size wr w2) : FtP w w2 qa qb qc qd qz pa pb pc pd pz := by
  obtain ⟨h1, h2, ⟨A1, c1, t1, b1⟩, ⟨A2, c2, t2, b2⟩, ⟨A3, c3, t3, b3⟩, ⟨A4, c4, t4, b4⟩, ⟨A5, c5, t5, b5⟩⟩ := h
  have := hb.size
  exact ⟨h1.trans (hb.mono h1.size), by omega, ⟨A1, c1, t1, b1.bel hb⟩, ⟨A2, c2, t2, b2.bel hb⟩, ⟨A3, c3, t3, b3.bel hb⟩, ⟨A4, c4, t4, b4.bel hb⟩, ⟨A5, c5, t5, b5.bel hb⟩⟩
theorem FtP.new (h : FtP w wr qa qb qc qd qz pa pb pc pd pz) {g : Nat} (hg : wr.heap.size ≤ g) : ¬ X5 qa qb qc qd qz g := fun hx => by
  have := h.lo
  unfold X5 at hx
  omega
theorem FtP.set_a (h : FtP w w2 qa qb qc qd qz pa pb pc pd pz) (t : Ty) (A : Option Addr) (c tl : Nat) (hl : t.ks.length = tl) (hin : Te.in_ (fun b => ¬ X5 qa qb qc qd qz b) w2 ⟨t, A, c⟩) (h3 : (((w2.setCell ⟨qa, 0, none⟩ (.int .u8 (t.k : Int))).setCell ⟨qa, 1, none⟩ (.string (str t.nm))).setCell ⟨qa, 2, none⟩ (.int .i64 t.n)).setCell ⟨qa, 3, none⟩ (.slice A tl c) = w3) : FtP w w3 qa qb qc qd qz t pb pc pd pz := by
  obtain ⟨h1, h2, ⟨A1, c1, t1, b1⟩, ⟨A2, c2, t2, b2⟩, ⟨A3, c3, t3, b3⟩, ⟨A4, c4, t4, b4⟩, ⟨A5, c5, t5, b5⟩⟩ := h
  have hx : X5 qa qb qc qd qz qa := by unfold X5; omega
  have hs := BxP.store b1 hx t A c tl hl hin h3
  have hz := hs.2.size
  exact ⟨h1.trans (hs.2.below (B := w.heap.size) h1.size fun b e => by omega), by omega, ⟨A, c, tl, hs.1⟩, ⟨A2, c2, t2, b2.off hs.2 hx (by omega)⟩, ⟨A3, c3, t3, b3.off hs.2 hx (by omega)⟩, ⟨A4, c4, t4, b4.off hs.2 hx (by omega)⟩, ⟨A5, c5, t5, b5.off hs.2 hx (by omega)⟩⟩
theorem FtP.set_b (h : FtP w w2 qa qb qc qd qz pa pb pc pd pz) (t : Ty) (A : Option Addr) (c tl : Nat) (hl : t.ks.length = tl) (hin : Te.in_ (fun b => ¬ X5 qa qb qc qd qz b) w2 ⟨t, A, c⟩) (h3 : (((w2.setCell ⟨qb, 0, none⟩ (.int .u8 (t.k : Int))).setCell ⟨qb, 1, none⟩ (.string (str t.nm))).setCell ⟨qb, 2, none⟩ (.int .i64 t.n)).setCell ⟨qb, 3, none⟩ (.slice A tl c) = w3) : FtP w w3 qa qb qc qd qz pa t pc pd pz := by
  obtain ⟨h1, h2, ⟨A1, c1, t1, b1⟩, ⟨A2, c2, t2, b2⟩, ⟨A3, c3, t3, b3⟩, ⟨A4, c4, t4, b4⟩, ⟨A5, c5, t5, b5⟩⟩ := h
  have hx : X5 qa qb qc qd qz qb := by unfold X5; omega
  have hs := BxP.store b2 hx t A c tl hl hin h3
  have hz := hs.2.size
  exact ⟨h1.trans (hs.2.below (B := w.heap.size) h1.size fun b e => by omega), by omega, ⟨A1, c1, t1, b1.off hs.2 hx (by omega)⟩, ⟨A, c, tl, hs.1⟩, ⟨A3, c3, t3, b3.off hs.2 hx (by omega)⟩, ⟨A4, c4, t4, b4.off hs.2 hx (by omega)⟩, ⟨A5, c5, t5, b5.off hs.2 hx (by omega)⟩⟩
theorem FtP.set_c (h : FtP w w2 qa qb qc qd qz pa pb pc pd pz) (t : Ty) (A : Option Addr) (c tl : Nat) (hl : t.ks.length = tl) (hin : Te.in_ (fun b => ¬ X5 qa qb qc qd qz b) w2 ⟨t, A, c⟩) (h3 : (((w2.setCell ⟨qc, 0, none⟩ (.int .u8 (t.k : Int))).setCell ⟨qc, 1, none⟩ (.string (str t.nm))).setCell ⟨qc, 2, none⟩ (.int .i64 t.n)).setCell ⟨qc, 3, none⟩ (.slice A tl c) = w3) : FtP w w3 qa qb qc qd qz pa pb t pd pz := by
  obtain ⟨h1, h2, ⟨A1, c1, t1, b1⟩, ⟨A2, c2, t2, b2⟩, ⟨A3, c3, t3, b3⟩, ⟨A4, c4, t4, b4⟩, ⟨A5, c5, t5, b5⟩⟩ := h
  have hx : X5 qa qb qc qd qz qc := by unfold X5; omega
  have hs := BxP.store b3 hx t A c tl hl hin h3
  have hz := hs.2.size
  exact ⟨h1.trans (hs.2.below (B := w.heap.size) h1.size fun b e => by omega), by omega, ⟨A1, c1, t1, b1.off hs.2 hx (by omega)⟩, ⟨A2, c2, t2, b2.off hs.2 hx (by omega)⟩, ⟨A, c, tl, hs.1⟩, ⟨A4, c4, t4, b4.off hs.2 hx (by omega)⟩, ⟨A5, c5, t5, b5.off hs.2 hx (by omega)⟩⟩
theorem FtP.set_d (h : FtP w w2 qa qb qc qd qz pa pb pc pd pz) (t : Ty) (A : Option Addr) (c tl : Nat) (hl : t.ks.length = tl) (hin : Te.in_ (fun b => ¬ X5 qa qb qc qd qz b) w2 ⟨t, A, c⟩) (h3 : (((w2.setCell ⟨qd, 0, none⟩ (.int .u8 (t.k : Int))).setCell ⟨qd, 1, none⟩ (.string (str t.nm))).setCell ⟨qd, 2, none⟩ (.int .i64 t.n)).setCell ⟨qd, 3, none⟩ (.slice A tl c) = w3) : FtP w w3 qa qb qc qd qz pa pb pc t pz := by
  obtain ⟨h1, h2, ⟨A1, c1, t1, b1⟩, ⟨A2, c2, t2, b2⟩, ⟨A3, c3, t3, b3⟩, ⟨A4, c4, t4, b4⟩, ⟨A5, c5, t5, b5⟩⟩ := h
  have hx : X5 qa qb qc qd qz qd := by unfold X5; omega
  have hs := BxP.store b4 hx t A c tl hl hin h3
  have hz := hs.2.size
  exact ⟨h1.trans (hs.2.below (B := w.heap.size) h1.size fun b e => by omega), by omega, ⟨A1, c1, t1, b1.off hs.2 hx (by omega)⟩, ⟨A2, c2, t2, b2.off hs.2 hx (by omega)⟩, ⟨A3, c3, t3, b3.off hs.2 hx (by omega)⟩, ⟨A, c, tl, hs.1⟩, ⟨A5, c5, t5, b5.off hs.2 hx (by omega)⟩⟩
theorem FtP.set_z (h : FtP w w2 qa qb qc qd qz pa pb pc pd pz) (t : Ty) (A : Option Addr) (c tl : Nat) (hl : t.ks.length = tl) (hin : Te.in_ (fun b => ¬ X5 qa qb qc qd qz b) w2 ⟨t, A, c⟩) (h3 : (((w2.setCell ⟨qz, 0, none⟩ (.int .u8 (t.k : Int))).setCell ⟨qz, 1, none⟩ (.string (str t.nm))).setCell ⟨qz, 2, none⟩ (.int .i64 t.n)).setCell ⟨qz, 3, none⟩ (.slice A tl c) = w3) : FtP w w3 qa qb qc qd qz pa pb pc pd t := by
  obtain ⟨h1, h2, ⟨A1, c1, t1, b1⟩, ⟨A2, c2, t2, b2⟩, ⟨A3, c3, t3, b3⟩, ⟨A4, c4, t4, b4⟩, ⟨A5, c5, t5, b5⟩⟩ := h
  have hx : X5 qa qb qc qd qz qz := by unfold X5; omega
  have hs := BxP.store b5 hx t A c tl hl hin h3
  have hz := hs.2.size
  exact ⟨h1.trans (hs.2.below (B := w.heap.size) h1.size fun b e => by omega), by omega, ⟨A1, c1, t1, b1.off hs.2 hx (by omega)⟩, ⟨A2, c2, t2, b2.off hs.2 hx (by omega)⟩, ⟨A3, c3, t3, b3.off hs.2 hx (by omega)⟩, ⟨A4, c4, t4, b4.off hs.2 hx (by omega)⟩, ⟨A, c, tl, hs.1⟩⟩
end
end Go.Proofs.Ytigaondgopahgaa
