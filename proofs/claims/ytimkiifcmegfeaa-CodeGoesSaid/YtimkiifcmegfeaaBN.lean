/- Contracts, part BN. -/
import Derived.Test.YtimkiifcmegfeaaBA
import Derived.Deep.RegionWith
import Derived.Test.YtimkiifcmegfeaaBP
import Derived.Defers
import Derived.Recover
/- code: a reader: number, text. -/
namespace Go.Proofs.Ytimkiifcmegfeaa
open Go.RowKit
set_option linter.unusedVariables false
set_option linter.unusedSimpArgs false
attribute [local go_sem] Oper.semAt_some
/-- A reader in memory. -/
structure RB (w : World) (rb : Nat) (A : Option Addr) (len cap : Nat) (bs : List UInt8) (at_ : Nat) : Prop where
  blk : Blk w rb 67 #[.slice A len cap, .int .i64 (at_ : Int)]
  by_ : Bytes w A bs
  ln : bs.length = len ∧ len ≤ 1073741824
  le : at_ ≤ len
  ne : ∀ p : Addr, A = some p → p.block ≠ rb
section
variable {w w' : World} {rb len cap at_ : Nat} {A : Option Addr} {bs : List UInt8}
theorem RB.bel (h : RB w rb A len cap bs at_) (hb : Below w.heap.size w w') : RB w' rb A len cap bs at_ := ⟨h.blk.below hb h.blk.lt, h.by_.below hb, h.ln, h.le, h.ne⟩
theorem RB.off {F : Nat → Prop} (h : RB w rb A len cap bs at_) (ho : Off F w w') (hr : ¬ F rb) (hA : ∀ p : Addr, A = some p → ¬ F p.block) : RB w' rb A len cap bs at_ :=
  ⟨h.blk.off ho hr, h.by_.same ho.size (fun p e hlt => ho.block _ hlt (hA p e)), h.ln, h.le, h.ne⟩
theorem RB.to (h : RB w rb A len cap bs at_) {a : Nat} (ha : a ≤ len) : RB (w.setCell ⟨rb, 1, none⟩ (.int .i64 (a : Int))) rb A len cap bs a := by
  refine ⟨by simpa using Blk.set_ h.blk 1 (.int .i64 (a : Int)), h.by_.same (by simp) (fun p e hlt => ?_), h.ln, ha, h.ne⟩
  exact Below.heap_setCell w ⟨rb, 1, none⟩ _ _ (h.ne p e)
end
/-- The number that so many bytes are, as an int64. -/
def numI (bs : List UInt8) (at_ n : Nat) : Int := IntKind.i64.wrap (leN (fieldOf bs at_ n) : Int)
set_option maxRecDepth 20000 in
theorem number_yes (rb len cap at_ n : Nat) (A : Option Addr) (bs : List UInt8) (w : World) (h : RB w rb A len cap bs at_) (hn : sizeB n = true) (hle : at_ + n ≤ len) :
    Calls Try.prog 32 #[.pointer (some ⟨rb, 0, none⟩), .int .i64 (n : Int)] w fun e w' => e = .returned (.int .i64 (numI bs at_ n)) ∧ RB w' rb A len cap bs (at_ + n) ∧ Off (fun k => k = rb) w w' := by
  have c0 : w.cell? ⟨rb, 0, none⟩ = some (.slice A len cap) := h.blk.cell 0
  have c1 : w.cell? ⟨rb, 1, none⟩ = some (.int .i64 (at_ : Int)) := h.blk.cell 1
  have HC := Lib.hid (fun (V : World) (hA : Bytes V A bs) => get_okL A len cap at_ n bs V h.ln.1 hn hle (by unfold maxLen; have := h.ln.2; omega) hA)
  obtain ⟨X, hX⟩ : ∃ z, leN (fieldOf bs at_ n) = z := ⟨_, rfl⟩
  rw [hX] at HC
  obtain ⟨Y, hY⟩ : ∃ z, IntKind.i64.wrap (X : Int) = z := ⟨_, rfl⟩
  have hs : IntKind.i64.wrap ((at_ : Int) + (n : Int)) = ((at_ + n : Nat) : Int) := by rw [IntWalk.i64_in _ ⟨by omega, by have := h.ln.2; omega⟩]; omega
  have hlx : at_ + n ≤ 1073741824 := by have := h.ln.2; omega
  have HH := Lib.hid (And.intro h (And.intro hX (And.intro hY hle)))
  clear h hX hle
  go_enter Try.func32, Try.ntmps32
  go_wp2_with fail
  go_region_with (go_at_call 57; refine (HC.out _ (HH.out.1.by_.below (⟨rfl, rfl, rfl, Nat.le_refl _, fun _ _ => rfl⟩ : Below w.heap.size w w.drew))).mono ?_; rintro e w2 ⟨rfl, hw2⟩
                  have hB2 : Below w.heap.size w w2 := Below.trans (⟨rfl, rfl, rfl, Nat.le_refl _, fun _ _ => rfl⟩ : Below w.heap.size w w.drew) hw2
                  have hR2 := HH.out.1.bel hB2
                  have c1 : w2.cell? ⟨rb, 1, none⟩ = some (.int .i64 (at_ : Int)) := hR2.blk.cell 1
                  have f1 := hR2.blk.frozen 1
                  have HG : Hid (RB (w2.setCell ⟨rb, 1, none⟩ (.int .i64 ((at_ + n : Nat) : Int))) rb A len cap bs (at_ + n) ∧ Off (fun k => k = rb) w (w2.setCell ⟨rb, 1, none⟩ (.int .i64 ((at_ + n : Nat) : Int)))) := Lib.hid ⟨hR2.to HH.out.2.2.2, (Off.of_new hB2 _).trans (Off.setc w2 rb 1 _)⟩
                  clear hw2 hB2 hR2)
  all_goals
    go_wp2_with fail
    go_ret
    have e1 : ((at_ : Int) + (n : Int)) = ((at_ + n : Nat) : Int) := by omega
    rw [e1]
    exact ⟨by rw [show numI bs at_ n = Y by unfold numI; rw [HH.out.2.1, HH.out.2.2.1]]; rfl, HG.out⟩
set_option maxRecDepth 20000 in
theorem number_no (rb len cap at_ n : Nat) (A : Option Addr) (bs : List UInt8) (w : World) (h : RB w rb A len cap bs at_) (hn8 : n ≤ 8) (hle : ¬ at_ + n ≤ len) :
    Calls Try.prog 32 #[.pointer (some ⟨rb, 0, none⟩), .int .i64 (n : Int)] w fun e w' => e = .panicked [wr] ∧ Below w.heap.size w w' := by
  have c0 : w.cell? ⟨rb, 0, none⟩ = some (.slice A len cap) := h.blk.cell 0
  have c1 : w.cell? ⟨rb, 1, none⟩ = some (.int .i64 (at_ : Int)) := h.blk.cell 1
  have h8 : (n : Int) < 9223372036854775808 := by omega
  have ha8 : (at_ : Int) < 9223372036854775808 := by have := h.le; have := h.ln.2; omega
  have hin : insideB (len : Int) (at_ : Int) (n : Int) = false := by unfold insideB; simp; omega
  have HC := Lib.hid (fun (V : World) => get_no A len cap at_ n V (by unfold maxLen; have := h.ln.2; omega) h8 ha8 (.inr hin))
  clear h hle hin h8 ha8 hn8
  go_enter Try.func32, Try.ntmps32
  go_wp2_with fail
  go_region_with (go_at_call 57; refine (HC.out _).mono ?_; rintro e w2 ⟨rfl, rfl⟩)
  all_goals
    go_wp2_with fail
    exact ⟨rfl, rfl, (Below.refl _ _).drew⟩
theorem numI4 {bs : List UInt8} {at_ : Nat} : numI bs at_ 4 = (leN (fieldOf bs at_ 4) : Int) ∧ leN (fieldOf bs at_ 4) < 4294967296 := by
  have h := leN_lt (fieldOf bs at_ 4)
  have h2 : (fieldOf bs at_ 4).length ≤ 4 := by unfold fieldOf; rw [List.length_take]; omega
  have h3 : 256 ^ (fieldOf bs at_ 4).length ≤ 256 ^ 4 := Nat.pow_le_pow_right (by omega) h2
  have h4 : leN (fieldOf bs at_ 4) < 4294967296 := Nat.lt_of_lt_of_le h h3
  exact ⟨by unfold numI; rw [IntWalk.i64_in _ ⟨by omega, by omega⟩], h4⟩
set_option maxRecDepth 20000 in
theorem text_yes (rb len cap at_ n : Nat) (A : Option Addr) (bs : List UInt8) (w : World) (h : RB w rb A len cap bs at_) (h4 : at_ + 4 ≤ len) (hn : leN (fieldOf bs at_ 4) = n) (hle : at_ + 4 + n ≤ len) :
    Calls Try.prog 33 #[.pointer (some ⟨rb, 0, none⟩)] w fun e w' => e = .returned (.string (str (fieldOf bs (at_ + 4) n))) ∧ RB w' rb A len cap bs (at_ + 4 + n) ∧ Off (fun k => k = rb) w w' := by
  have hnI : numI bs at_ 4 = (n : Int) := by rw [numI4.1, hn]
  have HN := Lib.hid (number_yes rb len cap at_ 4 A bs w h (by decide) h4)
  rw [hnI] at HN
  have hlx : at_ + 4 + n ≤ 1073741824 := by have := h.ln.2; omega
  obtain ⟨a4, ha4⟩ : ∃ z, at_ + 4 = z := ⟨_, rfl⟩
  rw [ha4] at HN hlx hle ⊢
  have hs : IntKind.i64.wrap ((a4 : Int) + (n : Int)) = ((a4 + n : Nat) : Int) := by rw [IntWalk.i64_in _ ⟨by omega, by omega⟩]; omega
  have hfl : (fieldOf bs a4 n).length = n := by unfold fieldOf; rw [List.length_take, List.length_drop, h.ln.1]; omega
  have HH := Lib.hid (And.intro h (And.intro hfl hle))
  clear h h4 hn hnI ha4 hfl hle
  go_enter Try.func33, Try.ntmps33
  go_wp2_with fail
  refine HN.out.mono ?_
  rintro e w1 ⟨rfl, h1, ho1⟩
  have c0 : w1.cell? ⟨rb, 0, none⟩ = some (.slice A len cap) := h1.blk.cell 0
  have c1 : w1.cell? ⟨rb, 1, none⟩ = some (.int .i64 (a4 : Int)) := h1.blk.cell 1
  have HC := Lib.hid (fun (V : World) (hA : Bytes V A bs) => cut_okL A len cap a4 n bs V h1.ln.1 HH.out.2.2 (by have := h1.ln.2; omega) hA)
  have H1 := Lib.hid (And.intro h1 ho1)
  clear h1 ho1 HN
  go_wp2_with fail
  go_region_with (go_at_call 58; refine (HC.out _ (H1.out.1.by_.below (⟨rfl, rfl, rfl, Nat.le_refl _, fun _ _ => rfl⟩ : Below w1.heap.size w1 w1.drew))).mono ?_; rintro e w2 ⟨rfl, hb2, hw2⟩
                  have hB2 : Below w1.heap.size w1 w2 := Below.trans (⟨rfl, rfl, rfl, Nat.le_refl _, fun _ _ => rfl⟩ : Below w1.heap.size w1 w1.drew) hw2
                  have hR2 := H1.out.1.bel hB2
                  have c1 : w2.cell? ⟨rb, 1, none⟩ = some (.int .i64 (a4 : Int)) := hR2.blk.cell 1
                  have f1 := hR2.blk.frozen 1
                  have hlt := H1.out.1.blk.lt
                  have hst := run_str8L (w2.setCell ⟨rb, 1, none⟩ (.int .i64 ((a4 : Int) + (n : Int)))) (some ⟨w1.heap.size, 0, none⟩) n n (fieldOf bs a4 n) HH.out.2.1 (Bytes.row (hb2.far (by show w1.heap.size ≠ rb; omega) _))
                  have HG : Hid (RB (w2.setCell ⟨rb, 1, none⟩ (.int .i64 ((a4 + n : Nat) : Int))) rb A len cap bs (a4 + n) ∧ Off (fun k => k = rb) w (w2.setCell ⟨rb, 1, none⟩ (.int .i64 ((a4 + n : Nat) : Int)))) := Lib.hid ⟨hR2.to HH.out.2.2, H1.out.2.trans ((Off.of_new hB2 _).trans (Off.setc w2 rb 1 _))⟩
                  clear hw2 hB2 hR2 hb2 hlt)
  all_goals
    go_wp2_with fail
    go_ret
    have e1 : ((a4 : Int) + (n : Int)) = ((a4 + n : Nat) : Int) := by omega
    rw [e1]
    exact ⟨rfl, HG.out⟩
set_option maxRecDepth 20000 in
theorem text_no (rb len cap at_ : Nat) (A : Option Addr) (bs : List UInt8) (w : World) (h : RB w rb A len cap bs at_) (hno : ¬ (at_ + 4 ≤ len ∧ at_ + 4 + leN (fieldOf bs at_ 4) ≤ len)) :
    Calls Try.prog 33 #[.pointer (some ⟨rb, 0, none⟩)] w fun e w' => e = .panicked [wr] ∧ (∃ a', at_ ≤ a' ∧ RB w' rb A len cap bs a') ∧ Off (fun k => k = rb) w w' := by
  by_cases h4 : at_ + 4 ≤ len
  · obtain ⟨n, hn⟩ : ∃ z, leN (fieldOf bs at_ 4) = z := ⟨_, rfl⟩
    have hle : ¬ at_ + 4 + n ≤ len := by rw [hn] at hno; omega
    have hn4 : n < 4294967296 := by rw [← hn]; exact numI4.2
    have hnI : numI bs at_ 4 = (n : Int) := by rw [numI4.1, hn]
    have HN := Lib.hid (number_yes rb len cap at_ 4 A bs w h (by decide) h4)
    rw [hnI] at HN
    obtain ⟨a4, ha4⟩ : ∃ z, at_ + 4 = z := ⟨_, rfl⟩
    rw [ha4] at HN hle h4
    have h8 : (n : Int) < 9223372036854775808 := by omega
    have ha8 : (a4 : Int) < 9223372036854775808 := by have := h.ln.2; omega
    have hin : insideB (len : Int) (a4 : Int) (n : Int) = false := by unfold insideB; simp; omega
    have HC := Lib.hid (fun (V : World) => cut_no A len cap a4 n V (by unfold maxLen; have := h.ln.2; omega) h8 ha8 hin)
    have HA4 : Hid (at_ ≤ a4) := Lib.hid (by omega)
    clear h h4 hn hnI ha4 hle h8 ha8 hin hno hn4
    go_enter Try.func33, Try.ntmps33
    go_wp2_with fail
    refine HN.out.mono ?_
    rintro e w1 ⟨rfl, h1, ho1⟩
    have c0 : w1.cell? ⟨rb, 0, none⟩ = some (.slice A len cap) := h1.blk.cell 0
    have c1 : w1.cell? ⟨rb, 1, none⟩ = some (.int .i64 (a4 : Int)) := h1.blk.cell 1
    have H1 := Lib.hid (And.intro ho1 (And.intro h1 HA4.out))
    clear h1 ho1 HN
    go_wp2_with fail
    go_region_with (go_at_call 58; refine (HC.out _).mono ?_; rintro e w2 ⟨rfl, rfl⟩)
    all_goals
      go_wp2_with fail
      exact ⟨rfl, rfl, ⟨a4, H1.out.2.2, H1.out.2.1.bel ((Below.refl _ _).drew)⟩, H1.out.1.trans (Off.drew _ _)⟩
  · have HN := Lib.hid (number_no rb len cap at_ 4 A bs w h (by omega) h4)
    have HH := Lib.hid h
    clear h h4 hno
    go_enter Try.func33, Try.ntmps33
    go_wp2_with fail
    refine HN.out.mono ?_
    rintro e w1 ⟨rfl, h1⟩
    exact ⟨rfl, rfl, ⟨at_, Nat.le_refl _, HH.out.bel h1⟩, Off.of_new h1 _⟩
end Go.Proofs.Ytimkiifcmegfeaa
/- code: what Read reads; its rows. -/
namespace Go.Proofs.Ytimkiifcmegfeaa
open Go.RowKit
set_option linter.unusedVariables false
set_option linter.unusedSimpArgs false
/-- One instruction of bytes. -/
def rdI (bs : List UInt8) (a : Nat) : Option (Ins × Nat) :=
  if a + 29 ≤ bs.length ∧ a + 29 + leN (fieldOf bs (a + 25) 4) ≤ bs.length then some (⟨leN (fieldOf bs a 1), numI bs (a + 1) 8, numI bs (a + 9) 8, numI bs (a + 17) 8, fieldOf bs (a + 29) (leN (fieldOf bs (a + 25) 4))⟩, a + 29 + leN (fieldOf bs (a + 25) 4)) else none
def rdIs (bs : List UInt8) : Nat → Nat → Option (List Ins × Nat)
  | 0, a => some ([], a)
  | k + 1, a => (rdI bs a).bind fun x => (rdIs bs k x.2).map fun y => (x.1 :: y.1, y.2)
def rdF (bs : List UInt8) (a : Nat) : Option (List Ins × Nat) := if a + 4 ≤ bs.length then rdIs bs (leN (fieldOf bs a 4)) (a + 4) else none
def rdFs (bs : List UInt8) : Nat → Nat → Option (List (List Ins) × Nat)
  | 0, a => some ([], a)
  | k + 1, a => (rdF bs a).bind fun x => (rdFs bs k x.2).map fun y => (x.1 :: y.1, y.2)
def rdT (bs : List UInt8) (a : Nat) : Option (List UInt8 × Nat) :=
  if a + 4 ≤ bs.length ∧ a + 4 + leN (fieldOf bs a 4) ≤ bs.length then some (fieldOf bs (a + 4) (leN (fieldOf bs a 4)), a + 4 + leN (fieldOf bs a 4)) else none
def rdR (bs : List UInt8) (a : Nat) : Option ((List UInt8 × List UInt8) × Nat) := (rdT bs a).bind fun x => (rdT bs x.2).map fun y => ((x.1, y.1), y.2)
def rdRs (bs : List UInt8) : Nat → Nat → Option (List (List UInt8 × List UInt8) × Nat)
  | 0, a => some ([], a)
  | k + 1, a => (rdR bs a).bind fun x => (rdRs bs k x.2).map fun y => (x.1 :: y.1, y.2)
/-- The roots, and the end. -/
def rdEnd (bs : List UInt8) (a : Nat) : Option (List (List UInt8 × List UInt8)) :=
  if a + 4 ≤ bs.length then (rdRs bs (leN (fieldOf bs a 4)) (a + 4)).bind fun y => if y.2 = bs.length then some y.1 else none else none
/-- The code whose bytes they are. -/
def readB (bs : List UInt8) : Option Cd :=
  if 4 ≤ bs.length then (rdFs bs (leN (fieldOf bs 0 4)) 4).bind fun x => (rdEnd bs x.2).map fun rs => ⟨x.1, rs⟩ else none
def icl : List Ins → List Value
  | [] => []
  | i :: is => i.cells ++ icl is
theorem icl_len : ∀ is : List Ins, (icl is).length = is.length * 5
  | [] => rfl
  | i :: is => by rw [icl, List.length_append, icl_len is, List.length_cons]; show 5 + _ = _; omega
theorem icl_app : ∀ a b : List Ins, icl (a ++ b) = icl a ++ icl b
  | [], b => rfl
  | i :: is, b => by rw [List.cons_append, icl, icl, icl_app is b, List.append_assoc]
theorem icl_get : ∀ (g : List Ins) (n : Nat) (x : Ins) (j : Nat) (v : Value), g[n]? = some x → x.cells[j]? = some v → (icl g)[n * 5 + j]? = some v
  | [], n, x, j, v, h, _ => by simp at h
  | y :: g, 0, x, j, v, h, hj => by
    simp at h
    subst h
    have : j < 5 := by have := (List.getElem?_eq_some_iff.1 hj).1; exact this
    rw [icl, Nat.zero_mul, Nat.zero_add, List.getElem?_append_left (by exact this)]
    exact hj
  | y :: g, n + 1, x, j, v, h, hj => by
    rw [icl, show (n + 1) * 5 + j = (n * 5 + j) + 5 by omega, List.getElem?_append_right (by show 5 ≤ _; omega)]
    show (icl g)[n * 5 + j + 5 - 5]? = _
    rw [Nat.add_sub_cancel]
    exact icl_get g n x j v (by simpa using h) hj
def rtl : List (List UInt8 × List UInt8) → List Value
  | [] => []
  | r :: rs => .string (str r.1) :: .string (str r.2) :: rtl rs
theorem rtl_len : ∀ is : List (List UInt8 × List UInt8), (rtl is).length = is.length * 2
  | [] => rfl
  | i :: is => by rw [rtl, List.length_cons, List.length_cons, rtl_len is, List.length_cons]; omega
theorem rtl_app : ∀ a b : List (List UInt8 × List UInt8), rtl (a ++ b) = rtl a ++ rtl b
  | [], b => rfl
  | i :: is, b => by rw [List.cons_append, rtl, rtl, rtl_app is b]; rfl
theorem rtl_get : ∀ (g : List (List UInt8 × List UInt8)) (n : Nat) (x : List UInt8 × List UInt8) (j : Nat) (v : Value), g[n]? = some x → (rtCells x)[j]? = some v → (rtl g)[n * 2 + j]? = some v
  | [], n, x, j, v, h, _ => by simp at h
  | y :: g, 0, x, j, v, h, hj => by
    simp at h
    subst h
    rcases j with _ | _ | j
    · exact hj
    · exact hj
    · simp [rtCells] at hj
  | y :: g, n + 1, x, j, v, h, hj => by
    rw [rtl, show (n + 1) * 2 + j = (n * 2 + j) + 1 + 1 by omega]
    exact rtl_get g n x j v (by simpa using h) hj
/-- A row of one's own, as a row that lies there. -/
theorem row_own {α : Type} {k : Nat} {cl : α → List Value} {w : World} {B : Nat} {t : TypeId} {A : Option Addr} {n c : Nat} {xs : List Value} {l : List α} (h : w.ownsRow B t k (.slice A n c) n xs) (hl : l.length = n) (hk : ∀ a, (cl a).length = k) (hg : ∀ (m : Nat) (x : α) (j : Nat) (v : Value), l[m]? = some x → (cl x)[j]? = some v → xs[m * k + j]? = some v) :
    RowAt k cl (fun b => (Value.slice A n c).ownBlock = some b) w A l := fun r a ha => by
  rcases h.2 with ⟨e, e0⟩ | ⟨g, cap, cur, e, h1, h2, h3, h4, h5, h6⟩
  · have := (List.getElem?_eq_some_iff.1 ha).1; omega
  · injection e with e1 e2 e3
    subst e1
    refine ⟨g, 0, rfl, rfl, (Array.getElem?_eq_some_iff.1 h2).1, fun j v hj => ?_⟩
    have h7 := hg r a j v ha hj
    rw [Nat.zero_add, cell_of_row w g _ cur t (0, 0) h2, ← Array.getElem?_toList]
    have hlt : r * k + j < n * k := by
      have := h.1
      have h8 := (List.getElem?_eq_some_iff.1 h7).1
      omega
    rw [← h6, List.getElem?_take_of_lt hlt] at h7
    exact h7
theorem infoIns : (Try.prog.info? 46).map (fun i => (i.zero, i.size, i.bytes)) = some (some (.agg #[.int .u8 0, .int .i64 0, .int .i64 0, .int .i64 0, .string ⟨#[]⟩]), 5, 48) := by kernel_rfl
theorem infoStp : (Try.prog.info? 48).map (fun i => (i.zero, i.size, i.bytes)) = some (some (.agg #[.string ⟨#[]⟩, .string ⟨#[]⟩]), 2, 32) := by kernel_rfl
theorem infoFun : (Try.prog.info? 44).map (fun i => (i.zero, i.size, i.bytes)) = some (some (.slice none 0 0), 1, 24) := by kernel_rfl
theorem adds (g : Nat) (j : Nat) : (⟨g, 0, none⟩ : Addr).add j = ⟨g, j, none⟩ := by unfold Addr.add; split <;> simp_all
/-- One instruction more. -/
theorem push_ins {w : World} {B : Nat} {v : Value} {is : List Ins} (h : w.ownsRow B 46 5 v is.length (icl is)) (hB : B ≤ w.heap.size) (i : Ins) (g : Nat) (hb : Blk w g 46 i.cells.toArray) (hl : is.length < 100000000) :
    ∃ v' w', (Builtin.append_ #[44, 44] 44 #[v, .slice (some ⟨g, 0, none⟩) 1 1]).run Try.prog w = .ok v' w' ∧ w'.ownsRow B 46 5 v' (is.length + 1) (icl (is ++ [i])) ∧ w.grownBy w' v.ownBlock ∧ (v'.ownBlock = v.ownBlock ∨ v'.ownBlock = some w.heap.size) := by
  obtain ⟨i0, hi, hz0, hz1, hz2⟩ := info_parts infoIns
  obtain ⟨v', w', hrun, h2, h3, _, h5⟩ := run_append_own_at (P := Try.prog) w B 44 44 46 i0 (.agg #[.int .u8 0, .int .i64 0, .int .i64 0, .int .i64 0, .string ⟨#[]⟩]) 5 48 Try.underlying44 hi hz0 hz1 hz2 rfl (by decide) v is.length _ h ⟨g, 0, none⟩ 1 1 i.cells rfl (fun j u hj => by rw [adds, hb.cell, ← Array.getElem?_toList]; exact hj)
    (fun u hu => by
      simp only [Ins.cells, List.mem_cons, List.not_mem_nil, or_false] at hu
      rcases hu with rfl | rfl | rfl | rfl | rfl <;> rfl) (by unfold maxLen; omega) (by omega) hB
  exact ⟨v', w', hrun, by rw [icl_app, icl, icl, List.append_nil]; exact h2, h3, h5⟩
/-- One root more. -/
theorem push_rt {w : World} {B : Nat} {v : Value} {rs : List (List UInt8 × List UInt8)} (h : w.ownsRow B 48 2 v rs.length (rtl rs)) (hB : B ≤ w.heap.size) (r : List UInt8 × List UInt8) (g : Nat) (hb : Blk w g 48 (rtCells r).toArray) (hl : rs.length < 100000000) :
    ∃ v' w', (Builtin.append_ #[23, 23] 23 #[v, .slice (some ⟨g, 0, none⟩) 1 1]).run Try.prog w = .ok v' w' ∧ w'.ownsRow B 48 2 v' (rs.length + 1) (rtl (rs ++ [r])) ∧ w.grownBy w' v.ownBlock ∧ (v'.ownBlock = v.ownBlock ∨ v'.ownBlock = some w.heap.size) := by
  obtain ⟨i0, hi, hz0, hz1, hz2⟩ := info_parts infoStp
  obtain ⟨v', w', hrun, h2, h3, _, h5⟩ := run_append_own_at (P := Try.prog) w B 23 23 48 i0 (.agg #[.string ⟨#[]⟩, .string ⟨#[]⟩]) 2 32 Try.underlying23 hi hz0 hz1 hz2 rfl (by decide) v rs.length _ h ⟨g, 0, none⟩ 1 1 (rtCells r) rfl (fun j u hj => by rw [adds, hb.cell, ← Array.getElem?_toList]; exact hj)
    (fun u hu => by
      simp only [rtCells, List.mem_cons, List.not_mem_nil, or_false] at hu
      rcases hu with rfl | rfl <;> rfl) (by unfold maxLen; omega) (by omega) hB
  exact ⟨v', w', hrun, by rw [rtl_app]; simpa [rtl, rtCells] using h2, h3, h5⟩
def fval (f : Fe) : Value := .slice f.A f.is.length f.c
/-- One function more. -/
theorem push_fe {w : World} {B : Nat} {v : Value} {fs : List Fe} (h : w.ownsRow B 44 1 v fs.length (fs.map fval)) (hB : B ≤ w.heap.size) (f : Fe) (g : Nat) (hb : Blk w g 44 #[fval f]) (hl : fs.length < 100000000) :
    ∃ v' w', (Builtin.append_ #[22, 22] 22 #[v, .slice (some ⟨g, 0, none⟩) 1 1]).run Try.prog w = .ok v' w' ∧ w'.ownsRow B 44 1 v' (fs.length + 1) ((fs ++ [f]).map fval) ∧ w.grownBy w' v.ownBlock ∧ (v'.ownBlock = v.ownBlock ∨ v'.ownBlock = some w.heap.size) := by
  obtain ⟨i0, hi, hz0, hz1, hz2⟩ := info_parts infoFun
  obtain ⟨v', w', hrun, h2, h3, _, h5⟩ := run_append_own_at (P := Try.prog) w B 22 22 44 i0 (.slice none 0 0) 1 24 Try.underlying22 hi hz0 hz1 hz2 rfl (by decide) v fs.length _ h ⟨g, 0, none⟩ 1 1 [fval f] rfl (fun j u hj => by rw [adds, hb.cell, ← Array.getElem?_toList]; exact hj)
    (fun u hu => by rw [List.mem_singleton.1 hu]; rfl) (by unfold maxLen; omega) (by omega) hB
  exact ⟨v', w', hrun, by rw [List.map_append]; exact h2, h3, h5⟩
end Go.Proofs.Ytimkiifcmegfeaa
/- code: Read under way. -/
namespace Go.Proofs.Ytimkiifcmegfeaa
open Go.RowKit
set_option linter.unusedVariables false
set_option linter.unusedSimpArgs false
attribute [local go_sem] Oper.semAt_some
/-- Read under way: what is read so far. -/
structure RJ (w : World) (qc qe rb B : Nat) (A : Option Addr) (len cap : Nat) (bs : List UInt8) (a : Nat) (fv rv : Value) (fs : List Fe) (rs : List (List UInt8 × List UInt8)) (X : Nat → Prop) (wx : World) : Prop where
  r : RB wx rb A len cap bs a
  c : Blk wx qc 25 #[fv, rv]
  e : Blk wx qe 31 #[.int .i64 0]
  fo : wx.ownsRow B 44 1 fv fs.length (fs.map fval)
  ro : wx.ownsRow B 48 2 rv rs.length (rtl rs)
  ff : ∀ f ∈ fs, f.In X wx
  rk : ∀ r ∈ rs, rtOk r
  x : ∀ k, X k → k < wx.heap.size ∧ B ≤ k ∧ fv.ownBlock ≠ some k ∧ rv.ownBlock ≠ some k
  d : ∀ k, fv.ownBlock = some k → rv.ownBlock ≠ some k
  lt : qc < qe ∧ qe < rb ∧ rb < B ∧ w.heap.size ≤ qc ∧ B ≤ wx.heap.size
  b : Below w.heap.size w wx
  src : ∀ p : Addr, A = some p → p.block < w.heap.size
  cnt : fs.length ≤ a ∧ rs.length ≤ a
/-- The function that is being read. -/
structure FJ (B a : Nat) (fv rv : Value) (X : Nat → Prop) (v : Value) (is : List Ins) (wx : World) : Prop where
  own : wx.ownsRow B 46 5 v is.length (icl is)
  n : ∀ k, v.ownBlock = some k → fv.ownBlock ≠ some k ∧ rv.ownBlock ≠ some k ∧ ¬ X k
  ok : ∀ i ∈ is, i.ok
  ct : is.length ≤ a
section
variable {w : World} {qc qe rb B : Nat} {A : Option Addr} {len cap : Nat} {bs : List UInt8} {a a' : Nat} {fv rv v : Value} {fs : List Fe} {rs : List (List UInt8 × List UInt8)} {X : Nat → Prop} {is : List Ins} {wx wy : World}
theorem RJ.off {F : Nat → Prop} (h : RJ w qc qe rb B A len cap bs a fv rv fs rs X wx) (ho : Off F wx wy) (hr : RB wy rb A len cap bs a') (ha : a ≤ a') (hF : ∀ k, F k → k = rb ∨ (B ≤ k ∧ fv.ownBlock ≠ some k ∧ rv.ownBlock ≠ some k ∧ ¬ X k)) : RJ w qc qe rb B A len cap bs a' fv rv fs rs X wy := by
  have hl := h.lt
  have hX : ∀ k, X k → ¬ F k := fun k hk hf => by
    rcases hF k hf with e | e
    · have := (h.x k hk).2.1; omega
    · exact e.2.2.2 hk
  refine ⟨hr, h.c.off ho (fun hf => by rcases hF _ hf with e | e <;> omega), h.e.off ho (fun hf => by rcases hF _ hf with e | e <;> omega), own_same h.fo fun k hk => ho.block k (h.fo.lt k hk).2 fun hf => ?_, own_same h.ro fun k hk => ho.block k (h.ro.lt k hk).2 fun hf => ?_, fun f hf => (h.ff f hf).off ho hX, h.rk, fun k hk => ⟨Nat.lt_of_lt_of_le (h.x k hk).1 ho.size, (h.x k hk).2⟩, h.d, ⟨hl.1, hl.2.1, hl.2.2.1, hl.2.2.2.1, Nat.le_trans hl.2.2.2.2 ho.size⟩, h.b.trans (ho.below h.b.size fun k hf => by rcases hF k hf with e | e <;> omega), h.src, ⟨Nat.le_trans h.cnt.1 ha, Nat.le_trans h.cnt.2 ha⟩⟩
  · rcases hF k hf with e | e
    · have := (h.fo.lt k hk).1; omega
    · exact e.2.1 hk
  · rcases hF k hf with e | e
    · have := (h.ro.lt k hk).1; omega
    · exact e.2.2.1 hk
theorem RJ.bel (h : RJ w qc qe rb B A len cap bs a fv rv fs rs X wx) (hb : Below wx.heap.size wx wy) : RJ w qc qe rb B A len cap bs a fv rv fs rs X wy :=
  h.off (F := fun _ => False) (Off.of_new hb _) (h.r.bel hb) (Nat.le_refl _) fun k hk => hk.elim
theorem RJ.rd (h : RJ w qc qe rb B A len cap bs a fv rv fs rs X wx) (ho : Off (fun k => k = rb) wx wy) (hr : RB wy rb A len cap bs a') (ha : a ≤ a') : RJ w qc qe rb B A len cap bs a' fv rv fs rs X wy := h.off ho hr ha fun k hk => .inl hk
theorem FJ.off {F : Nat → Prop} (h : FJ B a fv rv X v is wx) (ho : Off F wx wy) (ha : a ≤ a') (hF : ∀ k, v.ownBlock = some k → ¬ F k) : FJ B a' fv rv X v is wy :=
  ⟨own_same h.own fun k hk => ho.block k (h.own.lt k hk).2 (hF k hk), h.n, h.ok, Nat.le_trans h.ct ha⟩
theorem FJ.rd (h : FJ B a fv rv X v is wx) (ho : Off (fun k => k = rb) wx wy) (hB : rb < B) (ha : a ≤ a') : FJ B a' fv rv X v is wy := h.off ho ha fun k hk e => by have := (h.own.lt k hk).1; omega
theorem FJ.bel (h : FJ B a fv rv X v is wx) (hb : Below wx.heap.size wx wy) : FJ B a fv rv X v is wy := h.off (F := fun _ => False) (Off.of_new hb _) (Nat.le_refl _) fun k _ hk => hk
theorem RJ.grown {w3 : World} (h : RJ w qc qe rb B A len cap bs a fv rv fs rs X wx) (hgr : wx.grownBy w3 v.ownBlock) (hv : ∀ k, v.ownBlock = some k → B ≤ k ∧ fv.ownBlock ≠ some k ∧ rv.ownBlock ≠ some k ∧ ¬ X k) : RJ w qc qe rb B A len cap bs a fv rv fs rs X w3 := by
  have ho := Off.of_grown hgr
  refine h.off ho (h.r.off ho (fun e => ?_) fun p hp e => ?_) (Nat.le_refl _) fun k hk => .inr (hv k hk)
  · have := (hv _ e).1; have := h.lt; omega
  · have := (hv _ e).1; have := h.lt; have := h.src p hp; omega
/-- One instruction more. -/
theorem FJ.push {w3 : World} {v' : Value} {i : Ins} (h : FJ B a fv rv X v is wx) (hr : RJ w qc qe rb B A len cap bs a fv rv fs rs X wx) (hown : w3.ownsRow B 46 5 v' (is.length + 1) (icl (is ++ [i]))) (hgr : wx.grownBy w3 v.ownBlock) (hob : v'.ownBlock = v.ownBlock ∨ v'.ownBlock = some wx.heap.size) (hi : i.ok) (hc : is.length + 1 ≤ a) :
    FJ B a fv rv X v' (is ++ [i]) w3 ∧ RJ w qc qe rb B A len cap bs a fv rv fs rs X w3 := by
  refine ⟨⟨by rw [List.length_append]; exact hown, fun k hk => ?_, fun j hj => ?_, by rw [List.length_append]; exact hc⟩, hr.grown hgr fun k hk => ⟨(h.own.lt k hk).1, h.n k hk⟩⟩
  · rcases hob with e | e
    · exact h.n k (e ▸ hk)
    · rw [e] at hk
      injection hk with hk
      exact ⟨fun e2 => by have := (hr.fo.lt k e2).2; omega, fun e2 => by have := (hr.ro.lt k e2).2; omega, fun e2 => by have := (hr.x k e2).1; omega⟩
  · rcases List.mem_append.1 hj with hj | hj
    · exact h.ok j hj
    · rw [List.mem_singleton.1 hj]; exact hi
/-- One function more: what lies there behind the store. -/
theorem RJ.push_f {w3 : World} {fv' : Value} {A' : Option Addr} {c' : Nat} (hr : RJ w qc qe rb B A len cap bs a fv rv fs rs X wx) (h : FJ B a fv rv X (.slice A' is.length c') is wx) (hown : w3.ownsRow B 44 1 fv' (fs.length + 1) ((fs ++ [(⟨A', c', is⟩ : Fe)]).map fval)) (hgr : wx.grownBy w3 fv.ownBlock) (hob : fv'.ownBlock = fv.ownBlock ∨ fv'.ownBlock = some wx.heap.size) (hc : fs.length + 1 ≤ a) :
    RJ w qc qe rb B A len cap bs a fv' rv (fs ++ [⟨A', c', is⟩]) rs (fun k => X k ∨ (Value.slice A' is.length c').ownBlock = some k) (w3.setCell ⟨qc, 0, none⟩ fv') := by
  have ho := Off.of_grown hgr
  have hs : Off (fun k => k = qc) w3 (w3.setCell ⟨qc, 0, none⟩ fv') := Off.setc w3 qc 0 fv'
  have hl := hr.lt
  have hf9 : ∀ k, fv.ownBlock = some k → B ≤ k ∧ k < wx.heap.size := fun k hk => ⟨(hr.fo.lt k hk).1, (hr.fo.lt k hk).2⟩
  have hf8 : ∀ k, fv'.ownBlock = some k → B ≤ k := fun k hk => (hown.lt k hk).1
  have hsz : wx.heap.size ≤ w3.heap.size := ho.size
  have hc3 : Blk w3 qc 25 #[fv, rv] := hr.c.off ho fun e => by have := (hf9 _ e).1; omega
  have hfn : ∀ k, k < wx.heap.size → fv.ownBlock ≠ some k → fv'.ownBlock ≠ some k := fun k h1 h2 e => by
    rcases hob with e2 | e2
    · exact h2 (e2 ▸ e)
    · rw [e2] at e; injection e with e; omega
  have hXo : ∀ k, X k ∨ (Value.slice A' is.length c').ownBlock = some k → k < wx.heap.size ∧ B ≤ k ∧ fv.ownBlock ≠ some k ∧ rv.ownBlock ≠ some k := fun k hk => by
    rcases hk with hk | hk
    · exact hr.x k hk
    · exact ⟨(h.own.lt k hk).2, (h.own.lt k hk).1, (h.n k hk).1, (h.n k hk).2.1⟩
  have hoff : Off (fun k => fv.ownBlock = some k ∨ k = qc) wx (w3.setCell ⟨qc, 0, none⟩ fv') := (ho.mono fun k _ e => .inl e).trans (hs.mono fun k _ e => .inr e)
  refine ⟨hr.r.off hoff (by rintro (e | e); have := (hf9 _ e).1; omega; omega) (fun p hp => by have := hr.src p hp; rintro (e | e); have := (hf9 _ e).1; omega; omega), by simpa using Blk.set_ hc3 0 fv', hr.e.off hoff (by rintro (e | e); have := (hf9 _ e).1; omega; omega), ?_, own_same hr.ro fun k hk => hoff.block k (hr.ro.lt k hk).2 (by rintro (e | e); exact hr.d k e hk; have := (hr.ro.lt k hk).1; omega), ?_, hr.rk, fun k hk => ?_, fun k hk => ?_, ⟨hl.1, hl.2.1, hl.2.2.1, hl.2.2.2.1, Nat.le_trans hl.2.2.2.2 hoff.size⟩, hr.b.trans (hoff.below hr.b.size fun k e => by rcases e with e | e; have := (hf9 _ e).1; omega; omega), hr.src, ⟨by rw [List.length_append]; exact hc, hr.cnt.2⟩⟩
  · rw [List.length_append]
    exact own_same hown fun k hk => Below.heap_setCell w3 ⟨qc, 0, none⟩ fv' k (by have := hf8 k hk; show k ≠ qc; omega)
  · intro f hf
    have hXF : ∀ k, X k ∨ (Value.slice A' is.length c').ownBlock = some k → ¬ (fv.ownBlock = some k ∨ k = qc) := fun k hk => by
      have := hXo k hk
      rintro (e | e)
      · exact this.2.2.1 e
      · omega
    rcases List.mem_append.1 hf with hf | hf
    · exact ((hr.ff f hf).mono fun k _ hk => .inl hk).off hoff hXF
    · rw [List.mem_singleton.1 hf]
      have hrow := row_own (cl := Ins.cells) h.own rfl (fun _ => rfl) (fun m x j u hx hj => icl_get is m x j u hx hj)
      have hin : InsAt (fun k => X k ∨ (Value.slice A' is.length c').ownBlock = some k) wx A' is := ⟨hrow.mono fun k _ hk => .inr hk, h.ok⟩
      have hlen : is.length ≤ c' ∧ c' ≤ maxLen := by
        rcases h.own.2 with ⟨e, e0⟩ | ⟨g, cap', cur, e, _, _, h3, h4, _⟩
        · injection e with e1 e2 e3
          subst e3
          exact ⟨by omega, Nat.zero_le _⟩
        · injection e with e1 e2 e3
          subst e3
          exact ⟨h3, h4⟩
      exact ⟨hlen.1, hlen.2, hin.off hoff hXF⟩
  · have := hXo k hk
    exact ⟨Nat.lt_of_lt_of_le this.1 hoff.size, this.2.1, hfn k this.1 this.2.2.1, this.2.2.2⟩
  · rcases hob with e2 | e2
    · exact hr.d k (e2 ▸ hk)
    · rw [e2] at hk
      injection hk with hk
      intro e
      have := (hr.ro.lt k e).2
      omega
/-- One root more: what lies there behind the store. -/
theorem RJ.push_r {w3 : World} {rv' : Value} {r : List UInt8 × List UInt8} (hr : RJ w qc qe rb B A len cap bs a fv rv fs rs X wx) (hown : w3.ownsRow B 48 2 rv' (rs.length + 1) (rtl (rs ++ [r]))) (hgr : wx.grownBy w3 rv.ownBlock) (hob : rv'.ownBlock = rv.ownBlock ∨ rv'.ownBlock = some wx.heap.size) (hrk : rtOk r) (hc : rs.length + 1 ≤ a) :
    RJ w qc qe rb B A len cap bs a fv rv' fs (rs ++ [r]) X (w3.setCell ⟨qc, 1, none⟩ rv') := by
  have ho := Off.of_grown hgr
  have hs : Off (fun k => k = qc) w3 (w3.setCell ⟨qc, 1, none⟩ rv') := Off.setc w3 qc 1 rv'
  have hl := hr.lt
  have hf9 : ∀ k, rv.ownBlock = some k → B ≤ k ∧ k < wx.heap.size := fun k hk => ⟨(hr.ro.lt k hk).1, (hr.ro.lt k hk).2⟩
  have hf8 : ∀ k, rv'.ownBlock = some k → B ≤ k := fun k hk => (hown.lt k hk).1
  have hc3 : Blk w3 qc 25 #[fv, rv] := hr.c.off ho fun e => by have := (hf9 _ e).1; omega
  have hfn : ∀ k, k < wx.heap.size → rv.ownBlock ≠ some k → rv'.ownBlock ≠ some k := fun k h1 h2 e => by
    rcases hob with e2 | e2
    · exact h2 (e2 ▸ e)
    · rw [e2] at e; injection e with e; omega
  have hoff : Off (fun k => rv.ownBlock = some k ∨ k = qc) wx (w3.setCell ⟨qc, 1, none⟩ rv') := (ho.mono fun k _ e => .inl e).trans (hs.mono fun k _ e => .inr e)
  have hXF : ∀ k, X k → ¬ (rv.ownBlock = some k ∨ k = qc) := fun k hk => by
    have := hr.x k hk
    rintro (e | e)
    · exact this.2.2.2 e
    · omega
  refine ⟨hr.r.off hoff (by rintro (e | e); have := (hf9 _ e).1; omega; omega) (fun p hp => by have := hr.src p hp; rintro (e | e); have := (hf9 _ e).1; omega; omega), by simpa using Blk.set_ hc3 1 rv', hr.e.off hoff (by rintro (e | e); have := (hf9 _ e).1; omega; omega), own_same hr.fo fun k hk => hoff.block k (hr.fo.lt k hk).2 (by rintro (e | e); exact hr.d k hk e; have := (hr.fo.lt k hk).1; omega), ?_, fun f hf => (hr.ff f hf).off hoff hXF, fun j hj => ?_, fun k hk => ?_, fun k hk e => ?_, ⟨hl.1, hl.2.1, hl.2.2.1, hl.2.2.2.1, Nat.le_trans hl.2.2.2.2 hoff.size⟩, hr.b.trans (hoff.below hr.b.size fun k e => by rcases e with e | e; have := (hf9 _ e).1; omega; omega), hr.src, ⟨hr.cnt.1, by rw [List.length_append]; exact hc⟩⟩
  · rw [List.length_append]
    exact own_same hown fun k hk => Below.heap_setCell w3 ⟨qc, 1, none⟩ rv' k (by have := hf8 k hk; show k ≠ qc; omega)
  · rcases List.mem_append.1 hj with hj | hj
    · exact hr.rk j hj
    · rw [List.mem_singleton.1 hj]; exact hrk
  · have := hr.x k hk
    exact ⟨Nat.lt_of_lt_of_le this.1 hoff.size, this.2.1, this.2.2.1, hfn k this.1 this.2.2.2⟩
  · exact hfn k (hr.fo.lt k hk).2 (hr.d k hk) e
end
theorem rcatch_panicking (qc qe : Nat) (c0 c1 : Value) (x : Int) (u : TypeId) (pv : Value) (older : List PanicEntry) (w : World) (hc : Blk w qc 25 #[c0, c1]) (he : Blk w qe 31 #[.int .i64 x]) (hne : qc ≠ qe) :
    CallsD Try.prog 31 #[.pointer (some ⟨qc, 0, none⟩), .pointer (some ⟨qe, 0, none⟩)] (.panicking ({ v := .iface u pv, recovered := false } :: older)) w fun e u' w' =>
      e = .returned (.tuple #[]) ∧ u' = .panicking ({ v := .iface u pv, recovered := true } :: older) ∧ w' = ((w.setCell ⟨qc, 0, none⟩ (.slice none 0 0)).setCell ⟨qc, 1, none⟩ (.slice none 0 0)).setCell ⟨qe, 0, none⟩ (.int .i64 8) := by
  have h0 : w.cell? ⟨qc, 0, none⟩ = some c0 := hc.cell 0
  have z0 := hc.frozen 0
  have b1 := Blk.set_ hc 0 (.slice none 0 0)
  have h1 : (w.setCell ⟨qc, 0, none⟩ (.slice none 0 0)).cell? ⟨qc, 1, none⟩ = some c1 := b1.cell 1
  have z1 := b1.frozen 1
  have b2 : Blk ((w.setCell ⟨qc, 0, none⟩ (.slice none 0 0)).setCell ⟨qc, 1, none⟩ (.slice none 0 0)) qe 31 #[.int .i64 x] := (he.far (by show qe ≠ qc; omega) _).far (by show qe ≠ qc; omega) _
  have h2 : ((w.setCell ⟨qc, 0, none⟩ (.slice none 0 0)).setCell ⟨qc, 1, none⟩ (.slice none 0 0)).cell? ⟨qe, 0, none⟩ = some (.int .i64 x) := b2.cell 0
  have z2 := b2.frozen 0
  refine callsD_of_wpS Try.func31 rfl fun c₀ cs hu => ?_
  apply wpS_seq
  apply wpS_region
  simp [wpOpsS, go_sem, recoverD, hu, Try.ntmps31, Exit.thenS]
  refine wpS_cond (t := true) (by simp [Act.eval, Array.replicate]) ?_
  simp only [if_true]
  apply wpS_region
  simp [wpOpsS, go_sem, h0, z0, h1, z1, h2, z2, bodyPostS, results, Try.results31]
theorem rcatch_idle (p q : Addr) (w : World) :
    CallsD Try.prog 31 #[.pointer (some p), .pointer (some q)] .returning w fun e u' w' => e = .returned (.tuple #[]) ∧ u' = .returning ∧ w' = w := by
  refine callsD_of_wpS Try.func31 rfl fun c₀ cs hu => ?_
  apply wpS_seq
  apply wpS_region
  simp [wpOpsS, go_sem, recoverD, hu, Try.ntmps31, Exit.thenS]
  refine wpS_cond (t := false) (by simp [Act.eval, Array.replicate]) ?_
  simp only [Bool.false_eq_true, if_false]
  refine wpS_of_wp (wp_skip ?_)
  cases c₀
  simp_all [bodyPostS, results, Try.results31]
end Go.Proofs.Ytimkiifcmegfeaa
/- code: Read, apart from memory, by its rounds. -/
namespace Go.Proofs.Ytimkiifcmegfeaa
open Go.RowKit
set_option linter.unusedVariables false
set_option linter.unusedSimpArgs false
/-- The row of functions may be written, and stands apart from all else. -/
def ApW (p : Addr) (fs : List Fe) (Ar : Option Addr) (rs : List (List UInt8 × List UInt8)) (W : World) : Prop :=
  (∀ j : Nat, W.frozen? ⟨p.block, j, none⟩ = false) ∧ (∀ f ∈ fs, f.In (fun b => b ≠ p.block) W) ∧ RsAt (fun b => b ≠ p.block) W Ar rs
/-- How Read ends. -/
def RdPost (R : Option Cd) (w : World) (e : Ending) (w' : World) : Prop :=
  Below w.heap.size w w' ∧ match R with
    | none => e = .returned (.tuple #[.agg #[.slice none 0 0, .slice none 0 0], .int .i64 8])
    | some cd => ∃ cl : Cl, cl.cd = cd ∧ e = .returned (.tuple #[.agg #[.slice cl.fA cl.fs.length cl.fc, .slice cl.rA cl.rs.length cl.rc], .int .i64 0]) ∧ cl.At (fun b => w.heap.size ≤ b) w' ∧ ∀ p, cl.fA = some p → ApW p cl.fs cl.rA cl.rs w'
theorem RdPost.no {R : Option Cd} {w w' : World} {e : Ending} (hR : R = none) (hb : Below w.heap.size w w') (he : e = .returned (.tuple #[.agg #[.slice none 0 0, .slice none 0 0], .int .i64 8])) : RdPost R w e w' := by subst hR; exact ⟨hb, he⟩
theorem RdPost.yes {R : Option Cd} {w w' : World} {e : Ending} (cl : Cl) (hR : R = some cl.cd) (hb : Below w.heap.size w w') (he : e = .returned (.tuple #[.agg #[.slice cl.fA cl.fs.length cl.fc, .slice cl.rA cl.rs.length cl.rc], .int .i64 0])) (ha : cl.At (fun b => w.heap.size ≤ b) w') (hf : ∀ p, cl.fA = some p → ApW p cl.fs cl.rA cl.rs w') : RdPost R w e w' := by subst hR; exact ⟨hb, cl, rfl, he, ha, hf⟩
theorem frozen_set (w : World) (a b : Addr) (v : Value) : (w.setCell a v).frozen? b = w.frozen? b := World.frozen?_setCell _ _ _ _
theorem own_thaw {w : World} {base : Nat} {e : TypeId} {s : Nat} {A : Option Addr} {m c n : Nat} {xs : List Value} (h : w.ownsRow base e s (.slice A m c) n xs) : ∀ p, A = some p → ∀ j : Nat, w.frozen? ⟨p.block, j, none⟩ = false := by
  intro p hp j
  subst hp
  rcases h.2 with ⟨e, _⟩ | ⟨g, cap', cur, e, _, h2, _⟩
  · cases e
  · injection e with e1
    injection e1 with e1
    subst e1
    simp [World.frozen?, h2]
theorem RJ.end3 {w : World} {qc qe rb B : Nat} {A : Option Addr} {len cap : Nat} {bs : List UInt8} {a : Nat} {Af Ar : Option Addr} {cf cr : Nat} {fs : List Fe} {rs : List (List UInt8 × List UInt8)} {X : Nat → Prop} {wx : World} (h : RJ w qc qe rb B A len cap bs a (.slice Af fs.length cf) (.slice Ar rs.length cr) fs rs X wx) (v1 v2 v3 : Value) :
    ∀ p, Af = some p → ApW p fs Ar rs (((wx.setCell ⟨qc, 0, none⟩ v1).setCell ⟨qc, 1, none⟩ v2).setCell ⟨qe, 0, none⟩ v3) := by
  intro p hp
  have hl := h.lt
  have ho : Off (fun k => k = qc ∨ k = qe) wx (((wx.setCell ⟨qc, 0, none⟩ v1).setCell ⟨qc, 1, none⟩ v2).setCell ⟨qe, 0, none⟩ v3) :=
    (((Off.setc wx qc 0 _).mono fun k _ e => .inl e).trans ((Off.setc _ qc 1 _).mono fun k _ e => .inl e)).trans ((Off.setc _ qe 0 _).mono fun k _ e => .inr e)
  have hX : ∀ b : Nat, (B ≤ b) → ¬ (b = qc ∨ b = qe) := fun b hb => by rintro (e | e) <;> omega
  have hpb : (Value.slice Af fs.length cf).ownBlock = some p.block := by rw [hp]; rfl
  have hrr := row_own (cl := rtCells) h.ro rfl (fun _ => rfl) (fun m x j u hx hj => rtl_get rs m x j u hx hj)
  refine ⟨fun j => ?_, fun f hf => ?_, ?_⟩
  · rw [frozen_set, frozen_set, frozen_set]
    exact own_thaw h.fo p hp j
  · exact ((h.ff f hf).off ho fun b hb => hX b (h.x b hb).2.1).mono fun b _ hb e => (h.x b hb).2.2.1 (by rw [hpb, e])
  · exact ⟨(hrr.off ho fun b hb => hX b (h.ro.lt b hb).1).mono fun b _ hb e => h.d p.block hpb (by rw [← e]; exact hb), h.rk⟩
def kEnd (bs : List UInt8) (acc : List (List Ins)) (a : Nat) : Option Cd := (rdEnd bs a).map fun rs => ⟨acc, rs⟩
def kFs (bs : List UInt8) (k a : Nat) (acc : List (List Ins)) : Option Cd := (rdFs bs k a).bind fun x => kEnd bs (acc ++ x.1) x.2
def kIs (bs : List UInt8) (k1 k a : Nat) (acc : List (List Ins)) (is : List Ins) : Option Cd := (rdIs bs k a).bind fun y => kFs bs k1 y.2 (acc ++ [is ++ y.1])
def kRs (bs : List UInt8) (k a : Nat) (fs : List (List Ins)) (acc : List (List UInt8 × List UInt8)) : Option Cd := (rdRs bs k a).bind fun y => if y.2 = bs.length then some ⟨fs, acc ++ y.1⟩ else none
section
variable {bs : List UInt8}
theorem read_0 (h : ¬ 4 ≤ bs.length) : readB bs = none := if_neg h
theorem read_4 (h : 4 ≤ bs.length) : readB bs = kFs bs (leN (fieldOf bs 0 4)) 4 [] := by
  unfold readB kFs
  rw [if_pos h]
  cases rdFs bs (leN (fieldOf bs 0 4)) 4 with
  | none => rfl
  | some x => rfl
theorem kFs_0 (a : Nat) (acc : List (List Ins)) : kFs bs 0 a acc = kEnd bs acc a := by
  unfold kFs
  rw [rdFs]
  show kEnd bs (acc ++ []) a = _
  rw [List.append_nil]
theorem kFs_no (k a : Nat) (acc : List (List Ins)) (h : ¬ a + 4 ≤ bs.length) : kFs bs (k + 1) a acc = none := by
  unfold kFs
  rw [rdFs, rdF, if_neg h]; rfl
theorem kFs_yes (k a : Nat) (acc : List (List Ins)) (h : a + 4 ≤ bs.length) : kFs bs (k + 1) a acc = kIs bs k (leN (fieldOf bs a 4)) (a + 4) acc [] := by
  unfold kFs kIs
  rw [rdFs, rdF, if_pos h]
  cases rdIs bs (leN (fieldOf bs a 4)) (a + 4) with
  | none => rfl
  | some x =>
    show ((rdFs bs k x.2).map fun y => (x.1 :: y.1, y.2)).bind _ = kFs bs k x.2 (acc ++ [[] ++ x.1])
    unfold kFs
    cases rdFs bs k x.2 with
    | none => rfl
    | some y =>
      show kEnd bs (acc ++ (x.1 :: y.1)) y.2 = kEnd bs (acc ++ [[] ++ x.1] ++ y.1) y.2
      simp
theorem kIs_0 (k1 a : Nat) (acc : List (List Ins)) (is : List Ins) : kIs bs k1 0 a acc is = kFs bs k1 a (acc ++ [is]) := by
  unfold kIs
  rw [rdIs]
  show kFs bs k1 a (acc ++ [is ++ []]) = _
  rw [List.append_nil]
theorem kIs_no (k1 k a : Nat) (acc : List (List Ins)) (is : List Ins) (h : rdI bs a = none) : kIs bs k1 (k + 1) a acc is = none := by
  unfold kIs
  rw [rdIs, h]; rfl
theorem kIs_yes (k1 k a : Nat) (acc : List (List Ins)) (is : List Ins) {i : Ins} {a' : Nat} (h : rdI bs a = some (i, a')) : kIs bs k1 (k + 1) a acc is = kIs bs k1 k a' acc (is ++ [i]) := by
  unfold kIs
  rw [rdIs, h]
  show ((rdIs bs k a').map fun y => (i :: y.1, y.2)).bind _ = _
  cases rdIs bs k a' with
  | none => rfl
  | some y =>
    show kFs bs k1 y.2 (acc ++ [is ++ (i :: y.1)]) = kFs bs k1 y.2 (acc ++ [is ++ [i] ++ y.1])
    simp
theorem kEnd_no (a : Nat) (acc : List (List Ins)) (h : ¬ a + 4 ≤ bs.length) : kEnd bs acc a = none := by
  unfold kEnd
  rw [rdEnd, if_neg h]; rfl
theorem kEnd_yes (a : Nat) (acc : List (List Ins)) (h : a + 4 ≤ bs.length) : kEnd bs acc a = kRs bs (leN (fieldOf bs a 4)) (a + 4) acc [] := by
  unfold kEnd kRs
  rw [rdEnd, if_pos h]
  cases rdRs bs (leN (fieldOf bs a 4)) (a + 4) with
  | none => rfl
  | some y =>
    show (if y.2 = bs.length then some y.1 else none).map _ = if y.2 = bs.length then some (⟨acc, [] ++ y.1⟩ : Cd) else none
    by_cases hy : y.2 = bs.length
    · rw [if_pos hy, if_pos hy]; rfl
    · rw [if_neg hy, if_neg hy]; rfl
theorem kRs_0 (a : Nat) (fs : List (List Ins)) (acc : List (List UInt8 × List UInt8)) : kRs bs 0 a fs acc = if a = bs.length then some ⟨fs, acc⟩ else none := by
  unfold kRs
  rw [rdRs]
  show (if a = bs.length then some (⟨fs, acc ++ []⟩ : Cd) else none) = _
  rw [List.append_nil]
theorem kRs_no (k a : Nat) (fs : List (List Ins)) (acc : List (List UInt8 × List UInt8)) (h : rdR bs a = none) : kRs bs (k + 1) a fs acc = none := by
  unfold kRs
  rw [rdRs, h]; rfl
theorem kRs_yes (k a : Nat) (fs : List (List Ins)) (acc : List (List UInt8 × List UInt8)) {r : List UInt8 × List UInt8} {a' : Nat} (h : rdR bs a = some (r, a')) : kRs bs (k + 1) a fs acc = kRs bs k a' fs (acc ++ [r]) := by
  unfold kRs
  rw [rdRs, h]
  show ((rdRs bs k a').map fun y => (r :: y.1, y.2)).bind _ = _
  cases rdRs bs k a' with
  | none => rfl
  | some y =>
    show (if y.2 = bs.length then some (⟨fs, acc ++ (r :: y.1)⟩ : Cd) else none) = if y.2 = bs.length then some (⟨fs, acc ++ [r] ++ y.1⟩ : Cd) else none
    simp
theorem rdT_no (a : Nat) (h : ¬ (a + 4 ≤ bs.length ∧ a + 4 + leN (fieldOf bs a 4) ≤ bs.length)) : rdT bs a = none := if_neg h
theorem rdR_no1 (a : Nat) (h : rdT bs a = none) : rdR bs a = none := by unfold rdR; rw [h]; rfl
theorem rdR_no2 (a : Nat) {x : List UInt8} {a1 : Nat} (h : rdT bs a = some (x, a1)) (h2 : rdT bs a1 = none) : rdR bs a = none := by unfold rdR; rw [h]; show (rdT bs a1).map _ = none; rw [h2]; rfl
theorem rdR_yes (a : Nat) {x y : List UInt8} {a1 a2 : Nat} (h : rdT bs a = some (x, a1)) (h2 : rdT bs a1 = some (y, a2)) : rdR bs a = some ((x, y), a2) := by unfold rdR; rw [h]; show (rdT bs a1).map _ = _; rw [h2]; rfl
theorem rdT_yes (a : Nat) {n : Nat} (h1 : a + 4 ≤ bs.length) (hn : leN (fieldOf bs a 4) = n) (h2 : a + 4 + n ≤ bs.length) : rdT bs a = some (fieldOf bs (a + 4) n, a + 4 + n) := by
  subst hn
  exact if_pos ⟨h1, h2⟩
theorem rdI_no (a : Nat) (h : ¬ (a + 29 ≤ bs.length ∧ a + 29 + leN (fieldOf bs (a + 25) 4) ≤ bs.length)) : rdI bs a = none := if_neg h
end
theorem i64_rng (x : Int) : -9223372036854775808 ≤ IntKind.i64.wrap x ∧ IntKind.i64.wrap x < 9223372036854775808 := by
  simp [IntKind.wrap, IntKind.bits, IntKind.signed]
  split <;> omega
theorem numI1 {bs : List UInt8} {a : Nat} : numI bs a 1 = (leN (fieldOf bs a 1) : Int) ∧ leN (fieldOf bs a 1) < 256 := by
  have h := leN_lt (fieldOf bs a 1)
  have h2 : (fieldOf bs a 1).length ≤ 1 := by unfold fieldOf; rw [List.length_take]; omega
  have h3 : 256 ^ (fieldOf bs a 1).length ≤ 256 ^ 1 := Nat.pow_le_pow_right (by omega) h2
  have h4 : leN (fieldOf bs a 1) < 256 := Nat.lt_of_lt_of_le h h3
  exact ⟨by unfold numI; rw [IntWalk.i64_in _ ⟨by omega, by omega⟩], h4⟩
theorem field_len {bs : List UInt8} (a n : Nat) : (fieldOf bs a n).length ≤ n := by unfold fieldOf; rw [List.length_take]; omega
theorem shape_n {w : World} {base : Nat} {e : TypeId} {s : Nat} {v : Value} {n : Nat} {xs : List Value} (h : w.ownsRow base e s v n xs) : ∃ A c, v = .slice A n c := by
  rcases h.2 with ⟨rfl, rfl⟩ | ⟨g, cap, cur, rfl, _⟩
  · exact ⟨none, 0, rfl⟩
  · exact ⟨_, cap, rfl⟩
end Go.Proofs.Ytimkiifcmegfeaa
