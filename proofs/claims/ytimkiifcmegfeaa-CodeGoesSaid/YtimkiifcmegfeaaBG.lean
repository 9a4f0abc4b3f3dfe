/- Contracts, part BG. -/
import Derived.Test.YtimkiifcmegfeaaBU
import Derived.Test.YtimkiifcmegfeaaBN
import Derived.Test.YtimkiifcmegfeaaBC
import Derived.Test.YtimkiifcmegfeaaBE
import Derived.Test.YtimkiifcmegfeaaBT
/- code: the anchor's code, apart from memory. -/
namespace Go.Proofs.Ytimkiifcmegfeaa
open Go.RowKit
/-- The anchor's code, and without its first instruction. -/
def tail0 : List Ins := [⟨16, 0, 0, 0, [105, 116, 111, 115]⟩, ⟨16, 0, 0, 0, [112, 114, 105, 110, 116]⟩, ⟨25, 0, 0, 0, []⟩]
def is0 : List Ins := ⟨1, 5, 0, 0, []⟩ :: tail0
def cd0 : Cd := ⟨[is0], [([114], [105, 110, 116])]⟩
def cd1 : Cd := ⟨[tail0], [([114], [105, 110, 116])]⟩
theorem check0 : checkB cd0 = true := by kernel_rfl
theorem check1 : checkB cd1 = false := by kernel_rfl
theorem read0 : readB (cbytes cd0) = some cd0 := by kernel_rfl
theorem readNil : readB [] = none := by kernel_rfl
theorem len0 : (cbytes cd0).length ≤ 1000000 := of_decide_eq_true (by kernel_rfl)
theorem put3 : takesN [112, 117, 116] = 3 := by kernel_rfl
end Go.Proofs.Ytimkiifcmegfeaa
/- code: the anchor. -/
namespace Go.Proofs.Ytimkiifcmegfeaa
open Go.RowKit
set_option linter.unusedVariables false
set_option linter.unusedSimpArgs false
attribute [local go_sem] Oper.semAt_some
theorem row_blk {α : Type} {k : Nat} {cl : α → List Value} {X : Nat → Prop} {w : World} {g : Nat} {t : TypeId} {xs : List Value} {l : List α} (h : Blk w g t xs.toArray) (hX : X g) (hg : ∀ (m : Nat) (x : α) (j : Nat) (v : Value), l[m]? = some x → (cl x)[j]? = some v → xs[m * k + j]? = some v) : RowAt k cl X w (some ⟨g, 0, none⟩) l := fun r a ha => by
  refine ⟨g, 0, rfl, hX, h.lt, fun j v hj => ?_⟩
  rw [Nat.zero_add, h.cell]
  simpa using hg r a j v ha hj
/-- The anchor's code, where it lies. -/
def cl0 (g : Nat) : Cl := ⟨[⟨some ⟨g, 0, none⟩, 4, is0⟩], some ⟨g + 1, 0, none⟩, 1, [([114], [105, 110, 116])], some ⟨g + 1 + 1, 0, none⟩, 1⟩
theorem cl0_cd (g : Nat) : (cl0 g).cd = cd0 := rfl
theorem cl0_at {w : World} {g : Nat} (h0 : Blk w g 46 (icl is0).toArray) (h1 : Blk w (g + 1) 44 #[.slice (some ⟨g, 0, none⟩) 4 4]) (h2 : Blk w (g + 1 + 1) 48 (rtl [([114], [105, 110, 116])]).toArray) :
    (cl0 g).At (fun b => b < w.heap.size) w := by
  have i0 : InsAt (fun b => b < w.heap.size) w (some ⟨g, 0, none⟩) is0 := ⟨row_blk h0 h0.lt fun m x j v hx hj => icl_get is0 m x j v hx hj, fun i hi => by
    simp only [is0, tail0, List.mem_cons, List.not_mem_nil, or_false] at hi
    rcases hi with rfl | rfl | rfl | rfl <;> exact ⟨by decide, by decide, by decide, by decide, by decide⟩⟩
  have f0 : FsAt (fun b => b < w.heap.size) w (some ⟨g + 1, 0, none⟩) [⟨some ⟨g, 0, none⟩, 4, is0⟩] := ⟨row_blk (xs := [.slice (some ⟨g, 0, none⟩) 4 4]) h1 h1.lt fun m x j v hx hj => by
    rcases m with _ | m
    · cases hx
      rcases j with _ | j
      · exact hj
      · simp [Fe.cells] at hj
    · simp at hx, fun f hf => by
    rw [List.mem_singleton.1 hf]
    exact ⟨show (4 : Nat) ≤ 4 by decide, show (4 : Nat) ≤ maxLen by decide, i0⟩⟩
  have r0 : RsAt (fun b => b < w.heap.size) w (some ⟨g + 1 + 1, 0, none⟩) [([114], [105, 110, 116])] := ⟨row_blk h2 h2.lt fun m x j v hx hj => rtl_get _ m x j v hx hj, fun r hr => by
    rw [List.mem_singleton.1 hr]
    exact ⟨by decide, by decide⟩⟩
  exact ⟨f0, r0, ⟨show (1 : Nat) ≤ 1 by decide, show (1 : Nat) ≤ maxLen by decide⟩, ⟨show (1 : Nat) ≤ 1 by decide, show (1 : Nat) ≤ maxLen by decide⟩⟩
end Go.Proofs.Ytimkiifcmegfeaa
/- code: the anchor. -/
namespace Go.Proofs.Ytimkiifcmegfeaa
open Go.RowKit
set_option linter.unusedVariables false
set_option linter.unusedSimpArgs false
attribute [local go_sem] Oper.semAt_some
/-- The code that is read back, where it lies. -/
theorem cd0_at {w : World} {X : Nat → Prop} {cl : Cl} (hc : cl.cd = cd0) (h : cl.At X w) (hap : ∀ p, cl.fA = some p → ApW p cl.fs cl.rA cl.rs w) : ∃ (fb fo bi oi ba oa c fc rc : Nat), cl.fA = some ⟨fb, fo, none⟩ ∧ cl.rA = some ⟨ba, oa, none⟩ ∧ cl.fc = fc ∧ cl.rc = rc ∧ cl.fs = [⟨some ⟨bi, oi, none⟩, c, is0⟩] ∧ cl.rs = cd0.rs ∧ (4 ≤ c ∧ c ≤ maxLen) ∧ w.cell? ⟨fb, fo, none⟩ = some (.slice (some ⟨bi, oi, none⟩) 4 c) ∧ fb < w.heap.size ∧ X fb ∧ ApW ⟨fb, fo, none⟩ cl.fs cl.rA cl.rs w := by
  obtain ⟨fs, fA, fc, rs, rA, rc⟩ := cl
  have e1 : fs.map Fe.is = [is0] := congrArg Cd.fs hc
  have e2 : rs = cd0.rs := congrArg Cd.rs hc
  obtain ⟨f, rfl, e3⟩ : ∃ f, fs = [f] ∧ f.is = is0 := by
    match fs, e1 with
    | [], e => cases e
    | [f], e => exact ⟨f, rfl, by injection e⟩
    | f :: g :: l, e => simp at e
  obtain ⟨A, c, is⟩ := f
  have e3 : is = is0 := e3
  subst e3
  subst e2
  obtain ⟨fb, fo, eA, hX, hlt, c0, hin⟩ := h.fs.get (r := 0) rfl
  obtain ⟨bi, oi, eI, _⟩ := hin.ins.get (r := 0) rfl
  obtain ⟨ba, oa, eR, _⟩ := h.rs.get (k := 0) rfl
  have eA : fA = some ⟨fb, fo, none⟩ := eA
  have eI : A = some ⟨bi, oi, none⟩ := eI
  have eR : rA = some ⟨ba, oa, none⟩ := eR
  subst eA
  subst eI
  subst eR
  exact ⟨fb, fo, bi, oi, ba, oa, c, fc, rc, rfl, rfl, rfl, rfl, rfl, rfl, ⟨hin.len, hin.cap⟩, c0, hlt, hX, hap _ rfl⟩
theorem d1_at {w6 w11 : World} {X : Nat → Prop} {cl : Cl} {fb fo bi oi ba oa c2 fc rc c3 : Nat} (hb : Below w6.heap.size w6 w11) (hat : cl.At X w6) (hap : ApW ⟨fb, fo, none⟩ cl.fs cl.rA cl.rs w6) (e1 : cl.fA = some ⟨fb, fo, none⟩) (e2 : cl.rA = some ⟨ba, oa, none⟩) (e3 : cl.fc = fc) (e4 : cl.rc = rc) (e5 : cl.fs = [⟨some ⟨bi, oi, none⟩, c2, is0⟩]) (e6 : cl.rs = cd0.rs) (hc2 : 4 ≤ c2 ∧ c2 ≤ maxLen) (hc3 : c2 - 1 = c3) (hlt : fb < w6.heap.size)
    (hcell : w11.cell? ⟨fb, fo, none⟩ = some (.slice (some ⟨bi, oi, none⟩) 4 c2)) {W : World} (hW : (w11.setCell ⟨fb, fo, none⟩ (.slice (some ⟨bi, oi + 5, none⟩) 3 c3)).drew = W) :
    Cl.At (fun b => b < W.heap.size) W ⟨[⟨some ⟨bi, oi + 5, none⟩, c3, tail0⟩], some ⟨fb, fo, none⟩, fc, cd0.rs, some ⟨ba, oa, none⟩, rc⟩ := by
  have ho : Off (fun b => b = fb) w11 W := by
    rw [← hW]
    exact (Off.setc w11 fb fo _).trans (Off.drew _ _)
  have hsz := hb.size
  have hin := ((hap.2.1 ⟨some ⟨bi, oi, none⟩, c2, is0⟩ (by rw [e5]; exact List.mem_singleton.2 rfl)).bel hb).off ho fun b hb e => hb e
  have hrs := (hap.2.2.bel hb).off ho fun b hb e => hb e
  have hins : InsAt (fun b => b < W.heap.size) W (some ⟨bi, oi + 5, none⟩) tail0 := ⟨fun r a ha => by
    obtain ⟨b, off, e, _, hlt, hc⟩ := hin.ins.row (r + 1) a ha
    injection e with e
    injection e with e7 e8
    subst e7 e8
    exact ⟨bi, oi + 5, rfl, hlt, hlt, fun j v hj => by rw [show oi + 5 + r * 5 + j = oi + (r + 1) * 5 + j by omega]; exact hc j v hj⟩, fun i hi => hin.ins.ok i (List.mem_cons_of_mem _ hi)⟩
  have hc0 : W.cell? ⟨fb, fo, none⟩ = some (.slice (some ⟨bi, oi + 5, none⟩) 3 c3) := by
    rw [← hW]
    show (w11.setCell ⟨fb, fo, none⟩ _).cell? ⟨fb, fo, none⟩ = _
    exact World.cell?_setCell_same _ _ _ hcell
  have hlt2 : fb < W.heap.size := Nat.lt_of_lt_of_le (Nat.lt_of_lt_of_le hlt hsz) ho.size
  rw [e2, e6] at hrs
  have hfl := hat.fl
  have hrl := hat.rl
  rw [e5, e3] at hfl
  rw [e6, e4] at hrl
  refine ⟨⟨fun r a ha => ?_, fun f hf => ?_⟩, hrs.mono fun b hlt _ => hlt, hfl, hrl⟩
  · obtain rfl : r = 0 := by rcases r with _ | r; rfl; simp at ha
    obtain rfl : (⟨some ⟨bi, oi + 5, none⟩, c3, tail0⟩ : Fe) = a := by simpa using ha
    refine ⟨fb, fo, rfl, hlt2, hlt2, fun j v hj => ?_⟩
    obtain rfl : j = 0 := by rcases j with _ | j; rfl; simp [Fe.cells] at hj
    obtain rfl : (Value.slice (some ⟨bi, oi + 5, none⟩) 3 c3) = v := by simpa [Fe.cells, tail0] using hj
    exact hc0
  · rw [List.mem_singleton.1 hf]
    exact ⟨show (3 : Nat) ≤ c3 by omega, show c3 ≤ maxLen by omega, hins⟩
set_option maxRecDepth 20000 in
set_option maxHeartbeats 2000000 in
theorem works_any (w : World) : Calls Try.prog 11 #[] w fun e w' => e = .returned (.bool true) ∧ Below w.heap.size w w' := by
  obtain ⟨W, hW⟩ : ∃ V, ((((w.alloc (.cells (icl is0).toArray 46)).alloc (.cells #[.slice (some ⟨w.heap.size, 0, none⟩) 4 4] 44)).alloc (.cells (rtl [([114], [105, 110, 116])]).toArray 48)).alloc (.cells #[.slice (some ⟨w.heap.size + 1, 0, none⟩) 1 1, .slice (some ⟨w.heap.size + 1 + 1, 0, none⟩) 1 1] 25)) = V := ⟨_, rfl⟩
  obtain ⟨⟨k0, k1, k2, k3⟩, hb⟩ := four w _ _ _ _ hW
  have hAt := cl0_at (w := W) (g := w.heap.size) k0 k1 k2
  have hWr := write_any (cl0 w.heap.size) W hAt len0
  rw [cl0_cd] at hWr
  obtain ⟨xb, hxb⟩ : ∃ z, cbytes cd0 = z := ⟨_, rfl⟩
  obtain ⟨n, hn⟩ : ∃ z, xb.length = z := ⟨_, rfl⟩
  rw [hxb, hn] at hWr
  replace hWr : Calls Try.prog 12 #[.agg #[.slice (some ⟨w.heap.size + 1, 0, none⟩) 1 1, .slice (some ⟨w.heap.size + 1 + 1, 0, none⟩) 1 1]] W fun e w' => ∃ v, e = .returned v ∧ w'.ownsRow W.heap.size 5 1 v n (xb.map bv) ∧ Below W.heap.size W w' := hWr
  have hrd : readB xb = some cd0 := by rw [← hxb]; exact read0
  have hn8 : n ≤ 1000000 := by have := len0; rw [hxb, hn] at this; exact this
  have HB := Lib.hid (And.intro hb (And.intro hAt (And.intro hrd (And.intro hn hn8))))
  have HK3 : Hid (Blk W (w.heap.size + 1 + 1 + 1) 25 #[.slice (some ⟨w.heap.size + 1, 0, none⟩) 1 1, .slice (some ⟨w.heap.size + 1 + 1, 0, none⟩) 1 1]) := Lib.hid k3
  have HWR := Lib.hid hWr
  have HW := Lib.hid hW
  clear hW k0 k1 k2 k3 hb hAt hWr hxb hn hrd hn8
  go_enter Try.func11, Try.ntmps11
  go_wp2_with fail
  have h9 := HWR.out
  obtain ⟨Q, hQ⟩ : ∃ Q : Ending → World → Prop, (fun (e : Ending) (w' : World) => ∃ v, e = .returned v ∧ w'.ownsRow W.heap.size 5 1 v n (xb.map bv) ∧ Below W.heap.size W w') = Q := ⟨_, rfl⟩
  rw [hQ, ← HW.out] at h9
  refine h9.mono ?_
  intro e w5 hq
  rw [← hQ] at hq
  obtain ⟨v, rfl, hown, hb5⟩ := hq
  obtain ⟨A, c, rfl⟩ := own_shape hown
  have HR := Lib.hid (read_any A n c xb w5 HB.out.2.2.2.1 HB.out.2.2.2.2 (Bytes.of_own hown) (fun p hp => by have := (hown.lt p.block (by rw [hp]; rfl)).2; exact this))
  have HB5 := Lib.hid hb5
  have HB5s := Lib.hid hb5.size
  clear h9 hQ hown hb5 HWR
  go_wp2_with fail
  refine HR.out.mono ?_
  intro e w6 hq
  have hrd := HB.out.2.2.1
  rw [hrd] at hq
  obtain ⟨hb6, cl, hcd, rfl, hat, hap⟩ := hq
  obtain ⟨fb, fo, bi, oi, ba, oa, c2, fc, rc, e1, e2, e3, e4, e5, e6, hc2, hcell, hflt, hfX, hap⟩ := cd0_at hcd hat hap
  rw [e1, e2, e3, e4, show cl.fs.length = 1 by rw [e5]; rfl, show cl.rs.length = 1 by rw [e6]; rfl]
  have HC := Lib.hid (And.intro hb6 (And.intro hcd (And.intro hat (And.intro e1 (And.intro e2 (And.intro e3 (And.intro e4 (And.intro e5 (And.intro e6 (And.intro hc2 (And.intro hcell (And.intro hflt (And.intro hfX hap)))))))))))))
  have HRN := Lib.hid (fun V => read_any none 0 0 [] V rfl (by omega) (Bytes.nil _ _) (fun p hp => by cases hp))
  clear hrd hb6 hcd hat e1 e2 e3 e4 e5 e6 hc2 hcell hflt hfX HR
  go_wp2_with fail
  refine (HRN.out _).mono ?_
  intro e w8 hq
  rw [readNil] at hq
  obtain ⟨hb8, rfl⟩ := hq
  have HTK := Lib.hid (fun V => takes_any [112, 117, 116] V)
  have HB8 := Lib.hid hb8
  clear hb8 HRN
  go_wp2_with fail
  refine (HTK.out _).mono ?_
  intro e w9 hq
  rw [put3] at hq
  obtain ⟨rfl, hb9⟩ := hq
  obtain ⟨q1, hq1⟩ : ∃ z, w.heap.size + 1 + 1 + 1 = z := ⟨_, rfl⟩
  obtain ⟨q2, hq2⟩ : ∃ z, w6.heap.size = z := ⟨_, rfl⟩
  have D7 := Blk.new w6 25 #[.slice (some ⟨fb, fo, none⟩) 1 fc, .slice (some ⟨ba, oa, none⟩) 1 rc]
  have hb67 : Below w6.heap.size w6 (w6.alloc (.cells #[.slice (some ⟨fb, fo, none⟩) 1 fc, .slice (some ⟨ba, oa, none⟩) 1 rc] 25)) := (Below.refl _ _).alloc (Nat.le_refl _) _
  have hb89 : Below w8.heap.size w8 w9 := Below.trans ((Below.refl _ _).alloc (Nat.le_refl _) _) (hb9.mono (by simp))
  have hb79 := HB8.out.trans (hb89.mono HB8.out.size)
  have hb69 := hb67.trans (hb79.mono hb67.size)
  have hbW6 := HB5.out.trans (HC.out.1.mono HB5.out.size)
  have hbW9 := hbW6.trans (hb69.mono hbW6.size)
  have D9 := D7.below hb79 D7.lt
  rw [hq2] at D9
  have C9 := HK3.out.below hbW9 HK3.out.lt
  rw [hq1] at C9
  have hcell9 : w9.cell? ⟨fb, fo, none⟩ = some (.slice (some ⟨bi, oi, none⟩) 4 c2) := (hb69.cell (p := ⟨fb, fo, none⟩) HC.out.2.2.2.2.2.2.2.2.2.2.2.1).trans HC.out.2.2.2.2.2.2.2.2.2.2.1
  have hA9 := (HB.out.2.1.bel hbW9).mono (Y := fun b => b < w9.heap.size) fun b hlt _ => hlt
  have hD9 := (HC.out.2.2.1.bel hb69).mono (Y := fun b => b < w9.heap.size) fun b hlt _ => hlt
  have HS9 := Lib.hid (And.intro hbW9 (And.intro hb69 (And.intro D9 (And.intro C9 (And.intro hcell9 (And.intro hA9 (And.intro hD9 (And.intro hq1 hq2))))))))
  have x0 : w9.cell? ⟨q1, 0, none⟩ = some (.slice (some ⟨w.heap.size + 1, 0, none⟩) 1 1) := C9.cell 0
  have x1 : w9.cell? ⟨q1, 1, none⟩ = some (.slice (some ⟨w.heap.size + 1 + 1, 0, none⟩) 1 1) := C9.cell 1
  have y0 : w9.cell? ⟨q2, 0, none⟩ = some (.slice (some ⟨fb, fo, none⟩) 1 fc) := D9.cell 0
  have y1 : w9.cell? ⟨q2, 1, none⟩ = some (.slice (some ⟨ba, oa, none⟩) 1 rc) := D9.cell 1
  have z0 := hcell9
  rw [hq1, hq2]
  clear D7 hb67 hb89 hb79 hb69 hbW6 hbW9 D9 C9 hcell9 hA9 hD9 hq1 hq2 hb9 HTK HB5 HB8
  go_wp2_with fail
  have hS := same_any (cl0 w.heap.size) cl w9 HS9.out.2.2.2.2.2.1 HS9.out.2.2.2.2.2.2.1 len0 (by rw [HC.out.2.1]; exact len0)
  rw [HC.out.2.2.2.1, HC.out.2.2.2.2.1, HC.out.2.2.2.2.2.1, HC.out.2.2.2.2.2.2.1, show cl.fs.length = 1 by rw [HC.out.2.2.2.2.2.2.2.1]; rfl, show cl.rs.length = 1 by rw [HC.out.2.2.2.2.2.2.2.2.1]; rfl, cl0_cd, HC.out.2.1, decide_eq_true rfl] at hS
  refine hS.mono ?_
  rintro e w10 ⟨rfl, hb10⟩
  have C10 := HS9.out.2.2.2.1.below hb10 HS9.out.2.2.2.1.lt
  have D10 := HS9.out.2.2.1.below hb10 HS9.out.2.2.1.lt
  have hA10 := (HS9.out.2.2.2.2.2.1.bel hb10).mono (Y := fun b => b < w10.heap.size) fun b hlt _ => hlt
  have hK := check_any (cl0 w.heap.size) w10 hA10 (show (1 : Nat) ≤ 1000000 by decide) (show (1 : Nat) ≤ 1000000 by decide) (show (4 + 0 : Nat) ≤ 400000 by decide)
  rw [cl0_cd, check0, if_pos rfl] at hK
  have HCK := Lib.hid hK
  have HS10 := Lib.hid hb10
  have x0 : w10.cell? ⟨q1, 0, none⟩ = some (.slice (some ⟨w.heap.size + 1, 0, none⟩) 1 1) := C10.cell 0
  have x1 : w10.cell? ⟨q1, 1, none⟩ = some (.slice (some ⟨w.heap.size + 1 + 1, 0, none⟩) 1 1) := C10.cell 1
  clear hS hb10 C10 D10 hA10 hK
  go_wp2_with fail
  refine HCK.out.mono ?_
  rintro e w11 ⟨rfl, hb11⟩
  have HB11 := Lib.hid (HS10.out.trans (hb11.mono HS10.out.size))
  have D11 := HS9.out.2.2.1.below HB11.out HS9.out.2.2.1.lt
  have y0 : w11.cell? ⟨q2, 0, none⟩ = some (.slice (some ⟨fb, fo, none⟩) 1 fc) := D11.cell 0
  have y1 : w11.cell? ⟨q2, 1, none⟩ = some (.slice (some ⟨ba, oa, none⟩) 1 rc) := D11.cell 1
  have z0 : w11.cell? ⟨fb, fo, none⟩ = some (.slice (some ⟨bi, oi, none⟩) 4 c2) := (HB11.out.cell (p := ⟨fb, fo, none⟩) (Nat.lt_of_lt_of_le HC.out.2.2.2.2.2.2.2.2.2.2.2.1 HS9.out.2.1.size)).trans HS9.out.2.2.2.2.1
  have hfz : w11.frozen? ⟨fb, fo, none⟩ = false := by
    have h6 := HC.out.2.2.2.2.2.2.2.2.2.2.2.2.2.1 fo
    have hB := (HS9.out.2.1.trans (HB11.out.mono HS9.out.2.1.size)).block fb HC.out.2.2.2.2.2.2.2.2.2.2.2.1
    exact (World.frozen?_of_block (a := ⟨fb, fo, none⟩) hB).trans h6
  have hc4 := HC.out.2.2.2.2.2.2.2.2.2.1
  have hc1 : c2 ≠ 1 := by omega
  obtain ⟨c3, hc3⟩ : ∃ z, c2 - 1 = z := ⟨_, rfl⟩
  have i1 : (1 : Nat) ≤ 4 := by decide
  have i2 : (1 : Nat) ≤ c2 := by omega
  have i3 : (4 : Nat) ≤ c2 := hc4.1
  clear D11 hb11 HCK
  go_wp2_with fail
  go_region
  obtain ⟨w12, hw12⟩ : ∃ V, (w11.setCell ⟨fb, fo, none⟩ (.slice (some ⟨bi, oi + 5, none⟩) 3 c3)).drew = V := ⟨_, rfl⟩
  have hat12 := d1_at (HS9.out.2.1.trans (HB11.out.mono HS9.out.2.1.size)) HC.out.2.2.1 HC.out.2.2.2.2.2.2.2.2.2.2.2.2.2 HC.out.2.2.2.1 HC.out.2.2.2.2.1 HC.out.2.2.2.2.2.1 HC.out.2.2.2.2.2.2.1 HC.out.2.2.2.2.2.2.2.1 HC.out.2.2.2.2.2.2.2.2.1 hc4 hc3 HC.out.2.2.2.2.2.2.2.2.2.2.2.1 z0 hw12
  have hK := check_any _ w12 hat12 (show (1 : Nat) ≤ 1000000 by decide) (show (1 : Nat) ≤ 1000000 by decide) (show (3 + 0 : Nat) ≤ 400000 by decide)
  have hk1 : (if checkB (Cl.cd ⟨[⟨some ⟨bi, oi + 5, none⟩, c3, tail0⟩], some ⟨fb, fo, none⟩, fc, cd0.rs, some ⟨ba, oa, none⟩, rc⟩) = true then (0 : Int) else 17) = 17 := by
    show (if checkB cd1 = true then (0 : Int) else 17) = 17
    rw [check1]; rfl
  rw [hk1] at hK
  have D12 : Blk w12 q2 25 #[.slice (some ⟨fb, fo, none⟩) 1 fc, .slice (some ⟨ba, oa, none⟩) 1 rc] := by
    rw [← hw12]
    exact ((HS9.out.2.2.1.below HB11.out HS9.out.2.2.1.lt).far (p := ⟨fb, fo, none⟩) (by have h1 := HC.out.2.2.2.2.2.2.2.2.2.2.2.1; have h2 := HS9.out.2.2.2.2.2.2.2.2; show q2 ≠ fb; omega) _).drew
  have hb12 : Below w.heap.size w w12 := by
    rw [← hw12]
    have h1 := HB.out.1
    have h2 : Below w.heap.size w w11 := h1.trans ((HS9.out.1.trans (HB11.out.mono HS9.out.1.size)).mono h1.size)
    have h3 : w.heap.size ≤ fb := Nat.le_trans (Nat.le_trans h1.size HB5s.out) HC.out.2.2.2.2.2.2.2.2.2.2.2.2.1
    have h4 := below_set h2 fb fo (.slice (some ⟨bi, oi + 5, none⟩) 3 c3) h3
    exact h4.trans ((Off.drew (fun _ => False) _).below h4.size (fun k h => h.elim))
  have y0 : w12.cell? ⟨q2, 0, none⟩ = some (.slice (some ⟨fb, fo, none⟩) 1 fc) := D12.cell 0
  have y1 : w12.cell? ⟨q2, 1, none⟩ = some (.slice (some ⟨ba, oa, none⟩) 1 rc) := D12.cell 1
  have HK12 := Lib.hid hK
  have HB12 := Lib.hid hb12
  clear hK hat12 hk1 D12 hb12 z0 hfz hc4 hc1 hc3 i1 i2 i3
  rw [hw12]
  go_wp2_with fail
  refine HK12.out.mono ?_
  rintro e w13 ⟨rfl, hb13⟩
  have HB13 := Lib.hid (HB12.out.trans (hb13.mono HB12.out.size))
  clear hb13 HK12 HB12
  go_wp2_with fail
  go_ret
  exact ⟨rfl, HB13.out⟩
end Go.Proofs.Ytimkiifcmegfeaa
