/- heap: does: Get. -/
import Derived.Test.YtclkkfffecmjnaaAb
namespace Go.Proofs.Ytclkkfffecmjnaa
open Go.RowKit
set_option linter.unusedVariables false
/-- Between the rounds, where an object is answered, its words at T, from e on. -/
structure DT (Q : Nat → World → Prop) (w W : World) (xs : Array Value) (o : Ob) (n : Nat) (A : Option Addr) (c q b e : Nat) (T : Option Addr) (m c2 : Nat) (tws : List Wd) : Prop where
  dl : Dl Q w W xs o n A c q b
  t : WRow e W T m c2 tws
  lo : w.heap.size + 3 ≤ e
  hq : q < e
  hA : ∀ p : Addr, A = some p → p.block < e
  big : b ≤ W.heap.size
/-- Besides, what was answered at first lies at G, from e1 on. -/
structure DG (Q : Nat → World → Prop) (w W : World) (xs : Array Value) (o : Ob) (n : Nat) (A : Option Addr) (c q b e : Nat) (T : Option Addr) (m c2 : Nat) (tws : List Wd) (e1 qx : Nat) (G : Option Addr) (gc : Nat) (go : Ob) : Prop where
  dt : DT Q w W xs o n A c q b e T m c2 tws
  x : Blk W qx 35 #[.int .u8 (go.k : Int), .int .i64 go.tag, .slice G m gc, .string (str go.t)]
  g : ∃ gws, WRow e1 W G m gc gws
  hx : e1 ≤ qx ∧ qx < e ∧ qx < b
  hg : ∀ p : Addr, G = some p → p.block < qx
  hA1 : ∀ p : Addr, A = some p → p.block < e1
  hq1 : q < e1
  lo1 : w.heap.size + 3 ≤ e1
section
variable {Q : Nat → World → Prop} {w W W' : World} {xs : Array Value} {o go : Ob} {n c q b e m c2 e1 qx gc : Nat} {A T G : Option Addr} {tws : List Wd}
theorem DT.below (hQ : Stays Q w) (h : DT Q w W xs o n A c q b e T m c2 tws) (hb : Below W.heap.size W W') : DT Q w W' xs o n A c q b e T m c2 tws := ⟨h.dl.below hQ hb, h.t.below hb, h.lo, h.hq, h.hA, Nat.le_trans h.big hb.size⟩
theorem DT.step (hQ : Stays Q w) {p : Nat} (h : DT Q w W xs o n (some ⟨p, 0, none⟩) c q b e T m c2 tws) (i : Nat) (z : Wd) (hz : z.ok) : DT Q w ((W.setCell ⟨p, i * 2, none⟩ (.int .u8 (z.k : Int))).setCell ⟨p, i * 2 + 1, none⟩ (.int .i64 z.n)) xs o n (some ⟨p, 0, none⟩) c q b e T m c2 tws := by
  have ho : Off (fun k => k = p) W ((W.setCell ⟨p, i * 2, none⟩ (.int .u8 (z.k : Int))).setCell ⟨p, i * 2 + 1, none⟩ (.int .i64 z.n)) := offS (Off.setc _ _ _ _) _ _ _ rfl
  have hp : p < e := h.hA _ rfl
  exact ⟨h.dl.step hQ i z hz, h.t.same ho.size fun a ea => ho.block _ (h.t.blk a ea).2.2.2 fun e' => by have e' : a.block = p := e'; have := (h.t.blk a ea).2.2.1; omega, h.lo, h.hq, h.hA, Nat.le_trans h.big ho.size⟩
theorem DT.fin (hQ : Stays Q w) (h : DT Q w W xs o n A c q b e T m c2 tws) (ho : Off (fun k => k = w.heap.size + 1) W W') : ∃ b, Q b W' ∧ WRow w.heap.size W' T m c2 tws ∧ ∀ p : Addr, T = some p → p.block < W'.heap.size := by
  have hlo := h.lo
  refine ⟨b, hQ _ _ _ h.dl.q_ (ho.mono fun k _ e => by have e' : k = w.heap.size + 1 := e; have := h.dl.hb; exact ⟨by omega, by omega⟩), ?_, fun p ep => Nat.lt_of_lt_of_le (h.t.blk p ep).2.2.2 ho.size⟩
  exact (h.t.same ho.size fun a ea => ho.block _ (h.t.blk a ea).2.2.2 fun e' => by have e' : a.block = w.heap.size + 1 := e'; have := (h.t.blk a ea).2.2.1; omega).mono (by omega)
theorem DG.below (hQ : Stays Q w) (h : DG Q w W xs o n A c q b e T m c2 tws e1 qx G gc go) (hb : Below W.heap.size W W') : DG Q w W' xs o n A c q b e T m c2 tws e1 qx G gc go := by
  obtain ⟨gws, hg⟩ := h.g
  exact ⟨h.dt.below hQ hb, h.x.below hb h.x.lt, ⟨gws, hg.below hb⟩, h.hx, h.hg, h.hA1, h.hq1, h.lo1⟩
theorem DG.step (hQ : Stays Q w) {p : Nat} (h : DG Q w W xs o n A c q b e T m c2 tws e1 qx (some ⟨p, 0, none⟩) gc go) (i : Nat) (z : Wd) (hz : z.ok) : DG Q w ((W.setCell ⟨p, i * 2, none⟩ (.int .u8 (z.k : Int))).setCell ⟨p, i * 2 + 1, none⟩ (.int .i64 z.n)) xs o n A c q b e T m c2 tws e1 qx (some ⟨p, 0, none⟩) gc go := by
  have ho : Off (fun k => k = p) W ((W.setCell ⟨p, i * 2, none⟩ (.int .u8 (z.k : Int))).setCell ⟨p, i * 2 + 1, none⟩ (.int .i64 z.n)) := offS (Off.setc _ _ _ _) _ _ _ rfl
  obtain ⟨gws, hg⟩ := h.g
  obtain ⟨ws, hr⟩ := h.dt.dl.row
  have h1 : e1 ≤ p := (hg.blk _ rfl).2.2.1
  have h2 : p < qx := h.hg _ rfl
  have h3 := h.hx
  have h4 := h.lo1
  have h5 := h.hq1
  have hn : ∀ k, k ≠ p → k < W.heap.size → _ := fun k hk hl => ho.block k hl hk
  refine ⟨⟨⟨h.dt.dl.r.same (hn _ (by omega) h.dt.dl.r.lt), h.dt.dl.x.same (hn _ (by omega) h.dt.dl.x.lt), h.dt.dl.i.same (hn _ (by omega) h.dt.dl.i.lt), ⟨ws, hr.same ho.size fun a ea => hn _ (by have := h.hA1 a ea; omega) (hr.blk a ea).2.2.2⟩, h.dt.dl.hq, h.dt.dl.hA, h.dt.dl.hb,
    hQ _ _ _ h.dt.dl.q_ (ho.mono fun k _ ek => by have e' : k = p := ek; exact ⟨by omega, by omega⟩)⟩, h.dt.t.same ho.size fun a ea => hn _ (by have := (h.dt.t.blk a ea).2.2.1; omega) (h.dt.t.blk a ea).2.2.2, h.dt.lo, h.dt.hq, h.dt.hA, Nat.le_trans h.dt.big ho.size⟩,
    h.x.same (hn _ (by omega) h.x.lt), ⟨_, hg.set_ i z hz⟩, h.hx, h.hg, h.hA1, h.hq1, h.lo1⟩
end
section
variable {Q : Nat → World → Prop} {w : World} {o : Ov} {A : Option Addr} {c : Nat} {R : Option Addr} {d : Nat} {hp : Value}
set_option maxRecDepth 20000 in
set_option maxHeartbeats 4000000 in
theorem does_get (hQ : Stays Q w) (hv : OpV w o A c R d) (hf : Fits o) (hk : o.kind = 1) {go : Ob} {is : Bool}
    (hgo : go.ws.length ≤ 100000) (hMore : ∀ W W', Q W.heap.size W → Below W.heap.size W W' → Q W'.heap.size W')
    (hcall : ∀ w1, Below w.heap.size w w1 → Calls Try.prog 30 #[hp, .int .i64 o.k] w1 fun fn w' => ∃ G gc, fn = .returned (.tuple #[.agg #[.int .u8 (go.k : Int), .int .i64 go.tag, .slice G go.ws.length gc, .string (str go.t)], .bool is]) ∧ WRow w1.heap.size w' G go.ws.length gc go.ws ∧ Q w'.heap.size w' ∧ Below w1.heap.size w1 w') :
    Calls Try.prog 16 #[hp, .agg #[.int .i64 o.kind, .int .i64 o.k, .int .i64 o.i, .int .u8 (o.o.k : Int), .int .i64 o.o.tag, .slice A o.o.ws.length c, .string (str o.o.t), .int .u8 (o.w.k : Int), .int .i64 o.w.n, .slice R o.roots.length d]] w fun fn w' => ∃ T c2 b, fn = .returned (.agg #[.int .u8 (go.k : Int), .int .i64 go.tag, .slice T go.ws.length c2, .string (str go.t), .int .u8 0, .int .i64 0, .int .i64 0, .bool is, .int .i64 0]) ∧ Q b w' ∧ WRow w.heap.size w' T go.ws.length c2 go.ws ∧ (∀ p : Addr, T = some p → p.block < w'.heap.size) ∧ b ≤ w'.heap.size ∧ ∀ p : Addr, T = some p → p.block < b := by
  obtain ⟨kind, k, i, ⟨ok, tag, ws, t⟩, ⟨wk, wn⟩, roots⟩ := o
  obtain ⟨n, hn⟩ : ∃ n, ws.length = n := ⟨_, rfl⟩
  obtain ⟨m, hm⟩ : ∃ m, roots.length = m := ⟨_, rfl⟩
  have hk : kind = 1 := hk
  subst hk
  have hl : n ≤ 16384 := by rw [← hn]; exact hf.1
  obtain ⟨gk, gtag, gws, gt⟩ := go
  obtain ⟨m2, hm2⟩ : ∃ m2, gws.length = m2 := ⟨_, rfl⟩
  dsimp only at hgo hcall ⊢
  rw [hm2] at hgo hcall ⊢
  have HCP := copyobj_any ⟨ok, tag, ws, t⟩ A c (wD w #[.int .i64 1, .int .i64 k, .int .i64 i, .int .u8 (ok : Int), .int .i64 tag, .slice A n c, .string (str t), .int .u8 (wk : Int), .int .i64 wn, .slice R m d]) (by have := hf.1; dsimp only at this ⊢; omega) (hv.words.below (wD_below _ _))
  have hz := Dz.new w #[.int .i64 1, .int .i64 k, .int .i64 i, .int .u8 (ok : Int), .int .i64 tag, .slice A n c, .string (str t), .int .u8 (wk : Int), .int .i64 wn, .slice R m d]
  dsimp only at HCP hz ⊢
  rw [hn] at HCP
  rw [hn, hm]
  have HC := Lib.hid (And.intro hcall (And.intro hQ (And.intro hn hz)))
  have HM := Lib.hid (And.intro hMore hm2)
  replace HCP := Lib.hid HCP
  clear hcall hQ hn hm hz hv hf hMore hm2
  go_enter Try.func16, Try.ntmps16
  go_wp2_with fail
  refine HCP.out.mono ?_
  rintro e wc ⟨v, A1, c1, rfl, hob, hb⟩
  obtain ⟨rfl, hrow⟩ := hob
  dsimp only at hrow ⊢
  rw [HC.out.2.2.1] at hrow ⊢
  rw [wD_size] at hrow
  obtain ⟨w1, hw1⟩ : ∃ w1, wc.alloc (.cells #[.int .u8 (ok : Int), .int .i64 tag, .slice A1 n c1, .string (str t)] 35) = w1 := ⟨_, rfl⟩
  have hsz := hb.size
  rw [wD_size] at hsz
  have hp1 := Dp.new (o := ⟨ok, tag, ws, t⟩) (HC.out.2.2.2.below hb) hsz (hrow.mono (by omega))
  dsimp only at hp1
  rw [hw1] at hp1
  have hs1 : w1.heap.size = wc.heap.size + 1 := by rw [← hw1]; simp
  have hbw : Below wc.heap.size wc w1 := by rw [← hw1]; exact (Below.refl _ _).alloc (Nat.le_refl _) _
  have hrow1 : WRow (w.heap.size + 3) w1 A1 n c1 ws := (hrow.mono (B' := w.heap.size + 3) (by omega)).below hbw
  have hb1 : Below w.heap.size w w1 := (wD_below w _).trans ((hb.mono (by rw [wD_size]; omega)).trans (by rw [← hw1]; exact (Below.refl _ _).alloc (by omega) _))
  have H1 := Lib.hid (HC.out.1 w1 hb1)
  have HA1 := Lib.hid (And.intro hs1 (fun (p : Addr) (e : A1 = some p) => (hrow1.blk p e).2.2.2))
  have c0 := hp1.dz.op.cell 0
  have c1' := hp1.dz.op.cell 1
  have c2 := hp1.dz.op.cell 2
  have c7 := hp1.dz.op.cell 7
  have c8 := hp1.dz.op.cell 8
  have i0 := hp1.i.cell 0
  have i1 := hp1.i.cell 1
  have i2 := hp1.i.cell 2
  have i3 := hp1.i.cell 3
  simp only [List.getElem?_toArray, List.getElem?_cons_zero, List.getElem?_cons_succ] at c0 c1' c2 c7 c8 i0 i1 i2 i3
  have HP := Lib.hid hp1
  clear hp1 hs1 hb1 hb hbw hrow1 hsz hrow HCP
  go_wp2_with fail
  refine H1.out.mono ?_
  rintro e w2 ⟨G, gc, rfl, hgr, hq, hb2⟩
  have hp2 : Dp w w2 #[.int .i64 1, .int .i64 k, .int .i64 i, .int .u8 (ok : Int), .int .i64 tag, .slice A n c, .string (str t), .int .u8 (wk : Int), .int .i64 wn, .slice R m d] told0 ⟨ok, tag, ws, t⟩ n A1 c1 wc.heap.size w2.heap.size := ⟨HP.out.dz.below hb2, HP.out.i.below hb2 HP.out.i.lt, (by obtain ⟨ws9, h9⟩ := HP.out.row; exact ⟨ws9, h9.below hb2⟩), ⟨HP.out.hq.1, by have := HP.out.hq; have := hb2.size; have := HA1.out.1; omega⟩, fun p e => ⟨(HP.out.hA p e).1, by have := HA1.out.2 p e; have := hb2.size; omega⟩, by have := HP.out.hb; have := hb2.size; have := HA1.out.1; omega⟩
  obtain ⟨w2a, hw2⟩ : ∃ w2a, w2.alloc (.cells #[.int .u8 (gk : Int), .int .i64 gtag, .slice G m2 gc, .string (str gt)] 35) = w2a := ⟨_, rfl⟩
  have hba : Below w2.heap.size w2 w2a := by rw [← hw2]; exact (Below.refl _ _).alloc (Nat.le_refl _) _
  have hXB : Blk w2a w2.heap.size 35 #[.int .u8 (gk : Int), .int .i64 gtag, .slice G m2 gc, .string (str gt)] := by rw [← hw2]; exact Blk.new _ _ _
  have hsa : w2a.heap.size = w2.heap.size + 1 := by rw [← hw2]; simp
  have HCQ := copyobj_any ⟨gk, gtag, gws, gt⟩ G gc w2a (by dsimp only; rw [HM.out.2]; exact hgo) (hgr.words.below hba)
  dsimp only at HCQ
  rw [HM.out.2] at HCQ
  replace HCQ := Lib.hid HCQ
  have k0 := hXB.cell 0
  have k1 := hXB.cell 1
  have k2 := hXB.cell 2
  have k3 := hXB.cell 3
  simp only [List.getElem?_toArray, List.getElem?_cons_zero, List.getElem?_cons_succ] at k0 k1 k2 k3
  have HF := Lib.hid (And.intro hq (And.intro hp2 (And.intro hgr (And.intro hb2 (And.intro hba (And.intro hXB hsa))))))
  clear hq hp2 hgr hb2 hba hXB hsa H1 c0 c1' c2 c7 c8 i0 i1 i2 i3
  go_wp2_with fail
  refine HCQ.out.mono ?_
  rintro e w3 ⟨v, T, c2, rfl, hob, hb3⟩
  obtain ⟨rfl, htr⟩ := hob
  dsimp only at htr ⊢
  rw [HM.out.2] at htr ⊢
  obtain ⟨hq, hp2, hgr, hb2, hba, hXB, hsa⟩ := HF.out
  have hb23 : Below w2.heap.size w2 w3 := hba.trans (hb3.mono hba.size)
  have hq3 := HM.out.1 _ _ hq hb23
  have hsz3 := hb3.size
  have hsz12 := hb2.size
  have hp3 : Dp w w3 #[.int .i64 1, .int .i64 k, .int .i64 i, .int .u8 (ok : Int), .int .i64 tag, .slice A n c, .string (str t), .int .u8 (wk : Int), .int .i64 wn, .slice R m d] told0 ⟨ok, tag, ws, t⟩ n A1 c1 wc.heap.size w3.heap.size := ⟨hp2.dz.below hb23, hp2.i.below hb23 hp2.i.lt, (by obtain ⟨ws9, h9⟩ := hp2.row; exact ⟨ws9, h9.below hb23⟩), ⟨hp2.hq.1, by have := hp2.hq; omega⟩, fun p e => ⟨(hp2.hA p e).1, by have := (hp2.hA p e).2; omega⟩, by have := hp2.hb; omega⟩
  have hx3 := hXB.below hb3 hXB.lt
  have x0 := hp3.dz.x.cell 0
  have x1 := hp3.dz.x.cell 1
  have x2 := hp3.dz.x.cell 2
  have x3 := hp3.dz.x.cell 3
  have x7 := hp3.dz.x.cell 7
  have xf := hp3.dz.x.frozen
  have k2 := hx3.cell 2
  simp only [told0, List.getElem?_toArray, List.getElem?_cons_zero, List.getElem?_cons_succ] at x0 x1 x2 x3 x7 k2
  have hd0 : DG Q w (((((w3.setCell ⟨w.heap.size + 1 + 1, 0, none⟩ (.int .u8 (gk : Int))).setCell ⟨w.heap.size + 1 + 1, 1, none⟩ (.int .i64 gtag)).setCell ⟨w.heap.size + 1 + 1, 2, none⟩ (.slice T m2 c2)).setCell ⟨w.heap.size + 1 + 1, 3, none⟩ (.string (str gt))).setCell ⟨w.heap.size + 1 + 1, 7, none⟩ (.bool is)) #[.int .u8 (gk : Int), .int .i64 gtag, .slice T m2 c2, .string (str gt), .int .u8 0, .int .i64 0, .int .i64 0, .bool is, .int .i64 0] ⟨ok, tag, ws, t⟩ n A1 c1 wc.heap.size w3.heap.size (w2.heap.size + 1) T m2 c2 gws w1.heap.size w2.heap.size G gc ⟨gk, gtag, gws, gt⟩ := by
    have ho : Off (fun k => k = w.heap.size + 1 + 1) w3 (((((w3.setCell ⟨w.heap.size + 1 + 1, 0, none⟩ (.int .u8 (gk : Int))).setCell ⟨w.heap.size + 1 + 1, 1, none⟩ (.int .i64 gtag)).setCell ⟨w.heap.size + 1 + 1, 2, none⟩ (.slice T m2 c2)).setCell ⟨w.heap.size + 1 + 1, 3, none⟩ (.string (str gt))).setCell ⟨w.heap.size + 1 + 1, 7, none⟩ (.bool is)) :=
      offS (offS (offS (offS (Off.setc _ _ _ _) _ _ _ rfl) _ _ _ rfl) _ _ _ rfl) _ _ _ rfl
    have hh := hp3.hq
    have h1 := HA1.out.1
    have hl3 := HP.out.hb
    have hbx : Blk (((((w3.setCell ⟨w.heap.size + 1 + 1, 0, none⟩ (.int .u8 (gk : Int))).setCell ⟨w.heap.size + 1 + 1, 1, none⟩ (.int .i64 gtag)).setCell ⟨w.heap.size + 1 + 1, 2, none⟩ (.slice T m2 c2)).setCell ⟨w.heap.size + 1 + 1, 3, none⟩ (.string (str gt))).setCell ⟨w.heap.size + 1 + 1, 7, none⟩ (.bool is)) (w.heap.size + 1 + 1) 39 #[.int .u8 (gk : Int), .int .i64 gtag, .slice T m2 c2, .string (str gt), .int .u8 0, .int .i64 0, .int .i64 0, .bool is, .int .i64 0] := by
      have := ((((hp3.dz.x.set_ 0 (.int .u8 (gk : Int))).set_ 1 (.int .i64 gtag)).set_ 2 (.slice T m2 c2)).set_ 3 (.string (str gt))).set_ 7 (.bool is)
      simpa [told0] using this
    have hne : ∀ k, w.heap.size + 3 ≤ k → k < w3.heap.size → _ := fun k h1 h2 => ho.block k h2 (fun e => by have e' : k = w.heap.size + 1 + 1 := e; omega)
    have hg3 := (hgr.below hba).below hb3
    refine ⟨⟨Dl.start HC.out.2.1 hp3 hq3 ho hbx, (htr.mono (by omega)).same ho.size fun p e => hne _ (by have := (htr.blk p e).2.2.1; omega) (htr.blk p e).2.2.2, by omega, by omega, fun p e => by have := HA1.out.2 p e; omega, ho.size⟩, hx3.same (hne _ (by omega) hx3.lt), ⟨gws, hg3.same ho.size fun p e => hne _ (by have := (hg3.blk p e).2.2.1; omega) (hg3.blk p e).2.2.2⟩, ⟨by omega, by omega, by omega⟩, fun p e => (hgr.blk p e).2.2.2, fun p e => HA1.out.2 p e, by omega, by omega⟩
  have HD0 := Lib.hid hd0
  have HQ := Lib.hid HC.out.2.1
  have HTB := Lib.hid (And.intro (fun (p : Addr) (e : T = some p) => (htr.blk p e).2.2.2) (Nat.le_refl w3.heap.size))
  clear hd0 hp3 hx3 hq hp2 hgr hb2 hba hXB hsa hb23 hq3 hsz3 hsz12 htr hb3 HF HC HCQ HM HP HA1 k0 k1 k3 hw2
  go_wp2_with fail
  go_loopw [9] (fun iv wr => ∃ i : Nat, i ≤ m2 ∧ iv = .int .i64 (i : Int) ∧ Hid (DG Q w wr #[.int .u8 (gk : Int), .int .i64 gtag, .slice T m2 c2, .string (str gt), .int .u8 0, .int .i64 0, .int .i64 0, .bool is, .int .i64 0] ⟨ok, tag, ws, t⟩ n A1 c1 wc.heap.size w3.heap.size (w2.heap.size + 1) T m2 c2 gws w1.heap.size w2.heap.size G gc ⟨gk, gtag, gws, gt⟩)) (fun iv _ => m2 - (intOf iv).toNat)
  case atStart => exact ⟨0, Nat.zero_le _, rfl, HD0⟩
  case round =>
    clear HD0 x0 x1 x2 x3 x7 xf k2
    obtain ⟨r, hr, rfl, hI⟩ := hrel
    by_cases hlt : r < m2
    · have hd : decide ((r : Int) < (m2 : Int)) = true := by simpa using hlt
      obtain ⟨ws2, hrow⟩ := hI.out.g
      obtain ⟨p, x, rfl, _, _, hpl, _, p0, p1, pf⟩ := hrow.at_ hlt
      have j2 := hI.out.x.cell 2
      have j2l := hI.out.x.lt
      simp only [List.getElem?_toArray, List.getElem?_cons_zero, List.getElem?_cons_succ] at j2
      clear hrow
      go_wp2_with fail
      go_region_with (first
        | (go_at_call 41; refine (number_any 99 _).mono ?_; rintro e v2 ⟨rfl, hb2⟩
           have hb2 : Below wr.heap.size wr v2 := Below.trans (⟨rfl, rfl, rfl, Nat.le_refl _, fun _ _ => rfl⟩ : Below wr.heap.size wr wr.drew) hb2
           have j2 := (hb2.cell (p := ⟨w2.heap.size, 2, none⟩) j2l).trans j2
           have p0 := (hb2.cell (p := ⟨p, r * 2, none⟩) hpl).trans p0
           have p1 := (hb2.cell (p := ⟨p, r * 2 + 1, none⟩) hpl).trans p1
           have pf : ∀ j, v2.frozen? ⟨p, j, none⟩ = false := fun j => (World.frozen?_of_block (a := ⟨p, j, none⟩) (hb2.block p hpl)).trans (pf j)
           have HI2 := Lib.hid ((hI.out.below HQ.out hb2).step HQ.out r ⟨1, 99⟩ ⟨by show 1 < 256; omega, by show (-9223372036854775808 : Int) ≤ 99; omega, by show (99 : Int) < 9223372036854775808; omega⟩)
           clear hb2))
      all_goals
        go_wp2_with fail
        go_roundw
        case rel => exact ⟨r + 1, by omega, by go_num, HI2⟩
        case measure => simp [intOf]; omega
    · obtain rfl : m2 = r := by omega
      have hd : decide ((m2 : Int) < (m2 : Int)) = false := by simp
      have j2 := hI.out.x.cell 2
      simp only [List.getElem?_toArray, List.getElem?_cons_zero, List.getElem?_cons_succ] at j2
      have HD0 := Lib.hid hI.out.dt
      clear hI
      go_wp2_with fail
      clear j2
      go_loopw [11] (fun iv wr => ∃ i : Nat, i ≤ n ∧ iv = .int .i64 (i : Int) ∧ Hid (DT Q w wr #[.int .u8 (gk : Int), .int .i64 gtag, .slice T m2 c2, .string (str gt), .int .u8 0, .int .i64 0, .int .i64 0, .bool is, .int .i64 0] ⟨ok, tag, ws, t⟩ n A1 c1 wc.heap.size w3.heap.size (w2.heap.size + 1) T m2 c2 gws)) (fun iv _ => n - (intOf iv).toNat)
      case atStart => exact ⟨0, Nat.zero_le _, rfl, HD0⟩
      case round =>
        clear HD0
        obtain ⟨r, hr, rfl, hI⟩ := hrel
        by_cases hlt : r < n
        · have hd : decide ((r : Int) < (n : Int)) = true := by simpa using hlt
          obtain ⟨ws2, hrow⟩ := hI.out.dl.row
          obtain ⟨p, x, rfl, _, _, hpl, _, p0, p1, pf⟩ := hrow.at_ hlt
          have j2 := hI.out.dl.i.cell 2
          have j2l := hI.out.dl.i.lt
          simp only [List.getElem?_toArray, List.getElem?_cons_zero, List.getElem?_cons_succ] at j2
          clear hrow
          go_wp2_with fail
          go_region_with (first
            | (go_at_call 41; refine (number_any 77 _).mono ?_; rintro e v2 ⟨rfl, hb2⟩
               have hb2 : Below wr.heap.size wr v2 := Below.trans (⟨rfl, rfl, rfl, Nat.le_refl _, fun _ _ => rfl⟩ : Below wr.heap.size wr wr.drew) hb2
               have j2 := (hb2.cell (p := ⟨wc.heap.size, 2, none⟩) j2l).trans j2
               have p0 := (hb2.cell (p := ⟨p, r * 2, none⟩) hpl).trans p0
               have p1 := (hb2.cell (p := ⟨p, r * 2 + 1, none⟩) hpl).trans p1
               have pf : ∀ j, v2.frozen? ⟨p, j, none⟩ = false := fun j => (World.frozen?_of_block (a := ⟨p, j, none⟩) (hb2.block p hpl)).trans (pf j)
               have HI2 := Lib.hid ((hI.out.below HQ.out hb2).step HQ.out r ⟨1, 77⟩ ⟨by show 1 < 256; omega, by show (-9223372036854775808 : Int) ≤ 77; omega, by show (77 : Int) < 9223372036854775808; omega⟩)
               clear hb2))
          all_goals
            go_wp2_with fail
            go_roundw
            case rel => exact ⟨r + 1, by omega, by go_num, HI2⟩
            case measure => simp [intOf]; omega
        · obtain rfl : n = r := by omega
          have hd : decide ((n : Int) < (n : Int)) = false := by simp
          have j2 := hI.out.dl.i.cell 2
          have x0 := hI.out.dl.x.cell 0
          have x1 := hI.out.dl.x.cell 1
          have x2 := hI.out.dl.x.cell 2
          have x3 := hI.out.dl.x.cell 3
          have x4 := hI.out.dl.x.cell 4
          have x5 := hI.out.dl.x.cell 5
          have x6 := hI.out.dl.x.cell 6
          have x7 := hI.out.dl.x.cell 7
          have x8 := hI.out.dl.x.cell 8
          have y0 := hI.out.dl.r.cell 0
          have y1 := hI.out.dl.r.cell 1
          have y2 := hI.out.dl.r.cell 2
          have y3 := hI.out.dl.r.cell 3
          have y4 := hI.out.dl.r.cell 4
          have y5 := hI.out.dl.r.cell 5
          have y6 := hI.out.dl.r.cell 6
          have y7 := hI.out.dl.r.cell 7
          have y8 := hI.out.dl.r.cell 8
          have yf := hI.out.dl.r.frozen
          simp only [told0, List.getElem?_toArray, List.getElem?_cons_zero, List.getElem?_cons_succ] at j2 x0 x1 x2 x3 x4 x5 x6 x7 x8 y0 y1 y2 y3 y4 y5 y6 y7 y8
          have HI := Lib.hid hI.out
          clear hI
          go_wp2_with fail
          have HB9 := HI.out.dl.r.set9 (.int .u8 (gk : Int)) (.int .i64 gtag) (.slice T m2 c2) (.string (str gt)) (.int .u8 0) (.int .i64 0) (.int .i64 0) (.bool is) (.int .i64 0)
          refine bodyPost_ret (results_cell_row rfl _ _ (w.heap.size + 1) 39 _ (0, 0) _ rfl HB9 Try.underlying39 rfl (by kernel_rfl)) rfl ?_
          have ho9 := off9 wr (w.heap.size + 1) (.int .u8 (gk : Int)) (.int .i64 gtag) (.slice T m2 c2) (.string (str gt)) (.int .u8 0) (.int .i64 0) (.int .i64 0) (.bool is) (.int .i64 0)
          have hle := HI.out.dl.q_
          obtain ⟨_, _, h3, h4⟩ := HI.out.fin HQ.out ho9
          exact ⟨T, c2, w3.heap.size, rfl, HQ.out _ _ _ HI.out.dl.q_ (ho9.mono fun k _ e => by have e' : k = w.heap.size + 1 := e; have := HI.out.dl.hb; exact ⟨by omega, by omega⟩), h3, h4, Nat.le_trans HI.out.big ho9.size, HTB.out.1⟩
end
end Go.Proofs.Ytclkkfffecmjnaa
