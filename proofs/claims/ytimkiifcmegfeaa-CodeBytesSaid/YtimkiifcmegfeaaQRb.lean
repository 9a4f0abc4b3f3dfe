/- Contracts. -/
import Derived.Test.YtimkiifcmegfeaaQRa
/- code: the reference's Read under way. -/
namespace Go.Proofs.Ytimkiifcmegfeaa
open Go.RowKit
set_option linter.unusedVariables false
set_option linter.unusedSimpArgs false
attribute [local go_sem] Oper.semAt_some
/-- Read under way: what is read so far. -/
structure RK (w : World) (qc qe rb B : Nat) (A : Option Addr) (len cap : Nat) (bs : List UInt8) (a : Nat) (bd : Bool) (fv rv : Value) (fs : List Fe) (rs : List (List UInt8 × List UInt8)) (X : Nat → Prop) (wx : World) : Prop where
  r : RD wx rb A len cap bs a bd
  c : Blk wx qc 25 #[fv, rv]
  e : Blk wx qe 25 #[.slice none 0 0, .slice none 0 0]
  fo : wx.ownsRow B 44 1 fv fs.length (fs.map fval)
  ro : wx.ownsRow B 48 2 rv rs.length (rtl rs)
  ff : ∀ f ∈ fs, f.In X wx
  rk : ∀ r ∈ rs, rtOk r
  x : ∀ k, X k → k < wx.heap.size ∧ B ≤ k ∧ fv.ownBlock ≠ some k ∧ rv.ownBlock ≠ some k
  d : ∀ k, fv.ownBlock = some k → rv.ownBlock ≠ some k
  lt : qe < rb ∧ rb < qc ∧ qc < B ∧ w.heap.size ≤ qe ∧ B ≤ wx.heap.size
  b : Below w.heap.size w wx
  src : ∀ p : Addr, A = some p → p.block < w.heap.size
  cnt : fs.length ≤ a + 1 ∧ rs.length ≤ a + 1
section
variable {w : World} {qc qe rb B : Nat} {A : Option Addr} {len cap : Nat} {bs : List UInt8} {a a' c : Nat} {bd bd' : Bool} {fv rv v : Value} {fs : List Fe} {rs : List (List UInt8 × List UInt8)} {X : Nat → Prop} {is : List Ins} {wx wy : World}
theorem RK.off {F : Nat → Prop} (h : RK w qc qe rb B A len cap bs a bd fv rv fs rs X wx) (ho : Off F wx wy) (hr : RD wy rb A len cap bs a' bd') (ha : a ≤ a') (hF : ∀ k, F k → k = rb ∨ (B ≤ k ∧ fv.ownBlock ≠ some k ∧ rv.ownBlock ≠ some k ∧ ¬ X k)) : RK w qc qe rb B A len cap bs a' bd' fv rv fs rs X wy := by
  have hl := h.lt
  have hX : ∀ k, X k → ¬ F k := fun k hk hf => by
    rcases hF k hf with e | e
    · have := (h.x k hk).2.1; omega
    · exact e.2.2.2 hk
  refine ⟨hr, h.c.off ho (fun hf => by rcases hF _ hf with e | e <;> omega), h.e.off ho (fun hf => by rcases hF _ hf with e | e <;> omega), own_same h.fo fun k hk => ho.block k (h.fo.lt k hk).2 fun hf => ?_, own_same h.ro fun k hk => ho.block k (h.ro.lt k hk).2 fun hf => ?_, fun f hf => (h.ff f hf).off ho hX, h.rk, fun k hk => ⟨Nat.lt_of_lt_of_le (h.x k hk).1 ho.size, (h.x k hk).2⟩, h.d, ⟨hl.1, hl.2.1, hl.2.2.1, hl.2.2.2.1, Nat.le_trans hl.2.2.2.2 ho.size⟩, h.b.trans (ho.below h.b.size fun k hf => by rcases hF k hf with e | e <;> omega), h.src, ⟨Nat.le_trans h.cnt.1 (by omega), Nat.le_trans h.cnt.2 (by omega)⟩⟩
  · rcases hF k hf with e | e
    · have := (h.fo.lt k hk).1; omega
    · exact e.2.1 hk
  · rcases hF k hf with e | e
    · have := (h.ro.lt k hk).1; omega
    · exact e.2.2.1 hk
theorem RK.bel (h : RK w qc qe rb B A len cap bs a bd fv rv fs rs X wx) (hb : Below wx.heap.size wx wy) : RK w qc qe rb B A len cap bs a bd fv rv fs rs X wy :=
  h.off (F := fun _ => False) (Off.of_new hb _) (h.r.bel hb) (Nat.le_refl _) fun k hk => hk.elim
theorem RK.rd (h : RK w qc qe rb B A len cap bs a bd fv rv fs rs X wx) (ho : Off (fun k => k = rb) wx wy) (hr : RD wy rb A len cap bs a' bd') (ha : a ≤ a') : RK w qc qe rb B A len cap bs a' bd' fv rv fs rs X wy := h.off ho hr ha fun k hk => .inl hk
theorem RK.grown {w3 : World} (h : RK w qc qe rb B A len cap bs a bd fv rv fs rs X wx) (hgr : wx.grownBy w3 v.ownBlock) (hv : ∀ k, v.ownBlock = some k → B ≤ k ∧ fv.ownBlock ≠ some k ∧ rv.ownBlock ≠ some k ∧ ¬ X k) : RK w qc qe rb B A len cap bs a bd fv rv fs rs X w3 := by
  have ho := Off.of_grown hgr
  refine h.off ho (h.r.off ho (fun e => ?_) fun p hp e => ?_) (Nat.le_refl _) fun k hk => .inr (hv k hk)
  · have := (hv _ e).1; have := h.lt; omega
  · have := (hv _ e).1; have := h.lt; have := h.src p hp; omega
/-- One instruction more. -/
theorem FJ.pushK {w3 : World} {v' : Value} {i : Ins} (h : FJ B c fv rv X v is wx) (hr : RK w qc qe rb B A len cap bs a bd fv rv fs rs X wx) (hown : w3.ownsRow B 46 5 v' (is.length + 1) (icl (is ++ [i]))) (hgr : wx.grownBy w3 v.ownBlock) (hob : v'.ownBlock = v.ownBlock ∨ v'.ownBlock = some wx.heap.size) (hi : i.ok) (hc : is.length + 1 ≤ c) :
    FJ B c fv rv X v' (is ++ [i]) w3 ∧ RK w qc qe rb B A len cap bs a bd fv rv fs rs X w3 := by
  refine ⟨⟨by rw [List.length_append]; exact hown, fun k hk => ?_, fun j hj => ?_, by rw [List.length_append]; exact hc⟩, hr.grown hgr fun k hk => ⟨(h.own.lt k hk).1, h.n k hk⟩⟩
  · rcases hob with e | e
    · exact h.n k (e ▸ hk)
    · rw [e] at hk
      injection hk with hk
      exact ⟨fun e2 => by have := (hr.fo.lt k e2).2; omega, fun e2 => by have := (hr.ro.lt k e2).2; omega, fun e2 => by have := (hr.x k e2).1; omega⟩
  · rcases List.mem_append.1 hj with hj | hj
    · exact h.ok j hj
    · rw [List.mem_singleton.1 hj]; exact hi
/-- One function more: what lies there behind the store. -/
theorem RK.push_f {w3 : World} {fv' : Value} {A' : Option Addr} {c' : Nat} (hr : RK w qc qe rb B A len cap bs a bd fv rv fs rs X wx) (h : FJ B c fv rv X (.slice A' is.length c') is wx) (hown : w3.ownsRow B 44 1 fv' (fs.length + 1) ((fs ++ [(⟨A', c', is⟩ : Fe)]).map fval)) (hgr : wx.grownBy w3 fv.ownBlock) (hob : fv'.ownBlock = fv.ownBlock ∨ fv'.ownBlock = some wx.heap.size) (hc : fs.length + 1 ≤ a + 1) :
    RK w qc qe rb B A len cap bs a bd fv' rv (fs ++ [⟨A', c', is⟩]) rs (fun k => X k ∨ (Value.slice A' is.length c').ownBlock = some k) (w3.setCell ⟨qc, 0, none⟩ fv') := by
  have ho := Off.of_grown hgr
  have hs : Off (fun k => k = qc) w3 (w3.setCell ⟨qc, 0, none⟩ fv') := Off.setc w3 qc 0 fv'
  have hl := hr.lt
  have hf9 : ∀ k, fv.ownBlock = some k → B ≤ k ∧ k < wx.heap.size := fun k hk => ⟨(hr.fo.lt k hk).1, (hr.fo.lt k hk).2⟩
  have hf8 : ∀ k, fv'.ownBlock = some k → B ≤ k := fun k hk => (hown.lt k hk).1
  have hsz : wx.heap.size ≤ w3.heap.size := ho.size
  have hc3 : Blk w3 qc 25 #[fv, rv] := hr.c.off ho fun e => by have := (hf9 _ e).1; omega
  have hfn : ∀ k, k < wx.heap.size → fv.ownBlock ≠ some k → fv'.ownBlock ≠ some k := fun k h1 h2 e => by
    rcases hob with e2 | e2
    · exact h2 (e2 ▸ e)
    · rw [e2] at e; injection e with e; omega
  have hXo : ∀ k, X k ∨ (Value.slice A' is.length c').ownBlock = some k → k < wx.heap.size ∧ B ≤ k ∧ fv.ownBlock ≠ some k ∧ rv.ownBlock ≠ some k := fun k hk => by
    rcases hk with hk | hk
    · exact hr.x k hk
    · exact ⟨(h.own.lt k hk).2, (h.own.lt k hk).1, (h.n k hk).1, (h.n k hk).2.1⟩
  have hoff : Off (fun k => fv.ownBlock = some k ∨ k = qc) wx (w3.setCell ⟨qc, 0, none⟩ fv') := (ho.mono fun k _ e => .inl e).trans (hs.mono fun k _ e => .inr e)
  refine ⟨hr.r.off hoff (by rintro (e | e); have := (hf9 _ e).1; omega; omega) (fun p hp => by have := hr.src p hp; rintro (e | e); have := (hf9 _ e).1; omega; omega), by simpa using Blk.set_ hc3 0 fv', hr.e.off hoff (by rintro (e | e); have := (hf9 _ e).1; omega; omega), ?_, own_same hr.ro fun k hk => hoff.block k (hr.ro.lt k hk).2 (by rintro (e | e); exact hr.d k e hk; have := (hr.ro.lt k hk).1; omega), ?_, hr.rk, fun k hk => ?_, fun k hk => ?_, ⟨hl.1, hl.2.1, hl.2.2.1, hl.2.2.2.1, Nat.le_trans hl.2.2.2.2 hoff.size⟩, hr.b.trans (hoff.below hr.b.size fun k e => by rcases e with e | e; have := (hf9 _ e).1; omega; omega), hr.src, ⟨by rw [List.length_append]; exact hc, hr.cnt.2⟩⟩
  · rw [List.length_append]
    exact own_same hown fun k hk => Below.heap_setCell w3 ⟨qc, 0, none⟩ fv' k (by have := hf8 k hk; show k ≠ qc; omega)
  · intro f hf
    have hXF : ∀ k, X k ∨ (Value.slice A' is.length c').ownBlock = some k → ¬ (fv.ownBlock = some k ∨ k = qc) := fun k hk => by
      have := hXo k hk
      rintro (e | e)
      · exact this.2.2.1 e
      · omega
    rcases List.mem_append.1 hf with hf | hf
    · exact ((hr.ff f hf).mono fun k _ hk => .inl hk).off hoff hXF
    · rw [List.mem_singleton.1 hf]
      have hrow := row_own (cl := Ins.cells) h.own rfl (fun _ => rfl) (fun m x j u hx hj => icl_get is m x j u hx hj)
      have hin : InsAt (fun k => X k ∨ (Value.slice A' is.length c').ownBlock = some k) wx A' is := ⟨hrow.mono fun k _ hk => .inr hk, h.ok⟩
      have hlen : is.length ≤ c' ∧ c' ≤ maxLen := by
        rcases h.own.2 with ⟨e, e0⟩ | ⟨g, cap', cur, e, _, _, h3, h4, _⟩
        · injection e with e1 e2 e3
          subst e3
          exact ⟨by omega, Nat.zero_le _⟩
        · injection e with e1 e2 e3
          subst e3
          exact ⟨h3, h4⟩
      exact ⟨hlen.1, hlen.2, hin.off hoff hXF⟩
  · have := hXo k hk
    exact ⟨Nat.lt_of_lt_of_le this.1 hoff.size, this.2.1, hfn k this.1 this.2.2.1, this.2.2.2⟩
  · rcases hob with e2 | e2
    · exact hr.d k (e2 ▸ hk)
    · rw [e2] at hk
      injection hk with hk
      intro e
      have := (hr.ro.lt k e).2
      omega
/-- One root more: what lies there behind the store. -/
theorem RK.push_r {w3 : World} {rv' : Value} {r : List UInt8 × List UInt8} (hr : RK w qc qe rb B A len cap bs a bd fv rv fs rs X wx) (hown : w3.ownsRow B 48 2 rv' (rs.length + 1) (rtl (rs ++ [r]))) (hgr : wx.grownBy w3 rv.ownBlock) (hob : rv'.ownBlock = rv.ownBlock ∨ rv'.ownBlock = some wx.heap.size) (hrk : rtOk r) (hc : rs.length + 1 ≤ a + 1) :
    RK w qc qe rb B A len cap bs a bd fv rv' fs (rs ++ [r]) X (w3.setCell ⟨qc, 1, none⟩ rv') := by
  have ho := Off.of_grown hgr
  have hs : Off (fun k => k = qc) w3 (w3.setCell ⟨qc, 1, none⟩ rv') := Off.setc w3 qc 1 rv'
  have hl := hr.lt
  have hf9 : ∀ k, rv.ownBlock = some k → B ≤ k ∧ k < wx.heap.size := fun k hk => ⟨(hr.ro.lt k hk).1, (hr.ro.lt k hk).2⟩
  have hf8 : ∀ k, rv'.ownBlock = some k → B ≤ k := fun k hk => (hown.lt k hk).1
  have hc3 : Blk w3 qc 25 #[fv, rv] := hr.c.off ho fun e => by have := (hf9 _ e).1; omega
  have hfn : ∀ k, k < wx.heap.size → rv.ownBlock ≠ some k → rv'.ownBlock ≠ some k := fun k h1 h2 e => by
    rcases hob with e2 | e2
    · exact h2 (e2 ▸ e)
    · rw [e2] at e; injection e with e; omega
  have hoff : Off (fun k => rv.ownBlock = some k ∨ k = qc) wx (w3.setCell ⟨qc, 1, none⟩ rv') := (ho.mono fun k _ e => .inl e).trans (hs.mono fun k _ e => .inr e)
  have hXF : ∀ k, X k → ¬ (rv.ownBlock = some k ∨ k = qc) := fun k hk => by
    have := hr.x k hk
    rintro (e | e)
    · exact this.2.2.2 e
    · omega
  refine ⟨hr.r.off hoff (by rintro (e | e); have := (hf9 _ e).1; omega; omega) (fun p hp => by have := hr.src p hp; rintro (e | e); have := (hf9 _ e).1; omega; omega), by simpa using Blk.set_ hc3 1 rv', hr.e.off hoff (by rintro (e | e); have := (hf9 _ e).1; omega; omega), own_same hr.fo fun k hk => hoff.block k (hr.fo.lt k hk).2 (by rintro (e | e); exact hr.d k hk e; have := (hr.fo.lt k hk).1; omega), ?_, fun f hf => (hr.ff f hf).off hoff hXF, fun j hj => ?_, fun k hk => ?_, fun k hk e => ?_, ⟨hl.1, hl.2.1, hl.2.2.1, hl.2.2.2.1, Nat.le_trans hl.2.2.2.2 hoff.size⟩, hr.b.trans (hoff.below hr.b.size fun k e => by rcases e with e | e; have := (hf9 _ e).1; omega; omega), hr.src, ⟨hr.cnt.1, by rw [List.length_append]; exact hc⟩⟩
  · rw [List.length_append]
    exact own_same hown fun k hk => Below.heap_setCell w3 ⟨qc, 1, none⟩ rv' k (by have := hf8 k hk; show k ≠ qc; omega)
  · rcases List.mem_append.1 hj with hj | hj
    · exact hr.rk j hj
    · rw [List.mem_singleton.1 hj]; exact hrk
  · have := hr.x k hk
    exact ⟨Nat.lt_of_lt_of_le this.1 hoff.size, this.2.1, this.2.2.1, hfn k this.1 this.2.2.2⟩
  · exact hfn k (hr.fo.lt k hk).2 (hr.d k hk) e
end
end Go.Proofs.Ytimkiifcmegfeaa
