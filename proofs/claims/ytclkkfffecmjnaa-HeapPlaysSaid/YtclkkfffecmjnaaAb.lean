/- heap: does: its memory. -/
import Derived.Test.YtclkkfffecmjnaaAa
import Derived.Test.YtclkkfffecmjnaaIn
import Derived.Deep.RegionHeld3
namespace Go.Proofs.Ytclkkfffecmjnaa
open Go.RowKit
set_option linter.unusedVariables false
/-- What is done. -/
structure Ov where
  kind : Int
  k : Int
  i : Int
  o : Ob
  w : Wd
  roots : List Int
instance : Inhabited Ov := ⟨⟨0, 0, 0, ⟨0, 0, [], []⟩, ⟨0, 0⟩, []⟩⟩
def rng (i : Int) : Prop := -9223372036854775808 ≤ i ∧ i < 9223372036854775808
structure OpV (w : World) (o : Ov) (A : Option Addr) (c : Nat) (R : Option Addr) (d : Nat) : Prop where
  kind : rng o.kind
  k : rng o.k
  i : rng o.i
  ok : o.o.k < 256
  tag : rng o.o.tag
  words : Words w A o.o.ws
  wd : o.w.ok
  roots : Ints w R o.roots
  len : o.o.ws.length ≤ c ∧ c ≤ maxLen
  lend : o.roots.length ≤ d ∧ d ≤ maxLen
theorem OpV.below {w w' : World} {o : Ov} {A : Option Addr} {c : Nat} {R : Option Addr} {d : Nat} (h : OpV w o A c R d) (hb : Below w.heap.size w w') : OpV w' o A c R d := ⟨h.kind, h.k, h.i, h.ok, h.tag, h.words.below hb, h.wd, h.roots.below hb, h.len, h.lend⟩
/-- Not too great a thing. -/
def Fits (o : Ov) : Prop := o.o.ws.length ≤ 16384 ∧ o.o.t.length ≤ 16384 ∧ o.roots.length ≤ 16384
def opC (o : Ov) (A : Option Addr) (c : Nat) (R : Option Addr) (d : Nat) : Array Value := #[.int .i64 o.kind, .int .i64 o.k, .int .i64 o.i, .int .u8 (o.o.k : Int), .int .i64 o.o.tag, .slice A o.o.ws.length c, .string (str o.o.t), .int .u8 (o.w.k : Int), .int .i64 o.w.n, .slice R o.roots.length d]
def told0 : Array Value := #[.int .u8 0, .int .i64 0, .slice none 0 0, .string ⟨#[]⟩, .int .u8 0, .int .i64 0, .int .i64 0, .bool false, .int .i64 0]
/-- The three blocks of does. -/
def wD (w : World) (cs : Array Value) : World := ((w.alloc (.cells cs 43)).alloc (.cells #[.int .u8 0, .int .i64 0, .slice none 0 0, .string ⟨#[]⟩, .int .u8 0, .int .i64 0, .int .i64 0, .bool false, .int .i64 0] 39)).alloc (.cells #[.int .u8 0, .int .i64 0, .slice none 0 0, .string ⟨#[]⟩, .int .u8 0, .int .i64 0, .int .i64 0, .bool false, .int .i64 0] 39)
theorem wD_size (w : World) (cs : Array Value) : (wD w cs).heap.size = w.heap.size + 3 := by unfold wD; simp
theorem wD_below (w : World) (cs : Array Value) : Below w.heap.size w (wD w cs) := (((Below.refl _ w).alloc (Nat.le_refl _) _).alloc (by simp) _).alloc (by simp; omega) _
/-- The blocks that does has made ahead of its call. -/
def YD (w : World) (b : Nat) : Nat → Prop := fun k => w.heap.size ≤ k ∧ k < b
structure Dz (w W : World) (cs xs : Array Value) : Prop where
  op : Blk W w.heap.size 43 cs
  r : Blk W (w.heap.size + 1) 39 told0
  x : Blk W (w.heap.size + 1 + 1) 39 xs
theorem Dz.new (w : World) (cs : Array Value) : Dz w (wD w cs) cs told0 := by
  unfold wD
  refine ⟨((Blk.new _ _ _).alloc _).alloc _, ?_, ?_⟩
  · have := (Blk.new (w.alloc (.cells cs 43)) 39 told0).alloc (.cells told0 39)
    rw [World.size_alloc] at this
    exact this
  · have := Blk.new ((w.alloc (.cells cs 43)).alloc (.cells told0 39)) 39 told0
    rw [World.size_alloc, World.size_alloc] at this
    exact this
theorem Dz.below {w W W' : World} {cs xs : Array Value} (h : Dz w W cs xs) (hb : Below W.heap.size W W') : Dz w W' cs xs := ⟨h.op.below hb h.op.lt, h.r.below hb h.r.lt, h.x.below hb h.x.lt⟩
/-- Memory ahead of the call: what was handed in lies at q, its words at A. -/
structure Dp (w W : World) (cs xs : Array Value) (o : Ob) (n : Nat) (A : Option Addr) (c q b : Nat) : Prop where
  dz : Dz w W cs xs
  i : Blk W q 35 #[.int .u8 (o.k : Int), .int .i64 o.tag, .slice A n c, .string (str o.t)]
  row : ∃ ws, WRow (w.heap.size + 3) W A n c ws
  hq : w.heap.size + 3 ≤ q ∧ q < b
  hA : ∀ p : Addr, A = some p → p.block ≠ q ∧ p.block < b
  hb : w.heap.size + 3 ≤ b
theorem Dp.keep {w W W' : World} {cs xs : Array Value} {o : Ob} {n : Nat} {A : Option Addr} {c q b : Nat} (h : Dp w W cs xs o n A c q b) (hk : Keep (YD w b) W W') : Dp w W' cs xs o n A c q b := by
  have hb := h.hb
  obtain ⟨ws, hr⟩ := h.row
  exact ⟨⟨h.dz.op.same (hk.at_ _ ⟨Nat.le_refl _, by omega⟩), h.dz.r.same (hk.at_ _ ⟨by omega, by omega⟩), h.dz.x.same (hk.at_ _ ⟨by omega, by omega⟩)⟩, h.i.same (hk.at_ _ ⟨by have := h.hq; omega, h.hq.2⟩),
    ⟨ws, hr.same hk.size fun p e => hk.at_ _ ⟨by have := (hr.blk p e).2.2.1; omega, (h.hA p e).2⟩⟩, h.hq, h.hA, hb⟩
theorem Dp.new {w W : World} {cs xs : Array Value} {o : Ob} {n : Nat} {A : Option Addr} {c : Nat} (h : Dz w W cs xs) (hs : w.heap.size + 3 ≤ W.heap.size) {ws : List Wd} (hr : WRow (w.heap.size + 3) W A n c ws) :
    Dp w (W.alloc (.cells #[.int .u8 (o.k : Int), .int .i64 o.tag, .slice A n c, .string (str o.t)] 35)) cs xs o n A c W.heap.size (W.heap.size + 1) := by
  have hb : Below W.heap.size W (W.alloc (.cells #[.int .u8 (o.k : Int), .int .i64 o.tag, .slice A n c, .string (str o.t)] 35)) := (Below.refl _ _).alloc (Nat.le_refl _) _
  exact ⟨h.below hb, Blk.new _ _ _, ⟨ws, hr.below hb⟩, ⟨hs, by omega⟩, fun p e => ⟨by have := (hr.blk p e).2.2.2; omega, by have := (hr.blk p e).2.2.2; omega⟩, by omega⟩
/-- Between the rounds of the loop that turns what was handed in. -/
structure Dl (Q : Nat → World → Prop) (w W : World) (xs : Array Value) (o : Ob) (n : Nat) (A : Option Addr) (c q b : Nat) : Prop where
  r : Blk W (w.heap.size + 1) 39 told0
  x : Blk W (w.heap.size + 1 + 1) 39 xs
  i : Blk W q 35 #[.int .u8 (o.k : Int), .int .i64 o.tag, .slice A n c, .string (str o.t)]
  row : ∃ ws, WRow (w.heap.size + 3) W A n c ws
  hq : w.heap.size + 3 ≤ q ∧ q < b
  hA : ∀ p : Addr, A = some p → p.block ≠ q ∧ p.block < b
  hb : w.heap.size + 3 ≤ b
  q_ : Q b W
/-- What is kept where only blocks of does are turned. -/
def Stays (Q : Nat → World → Prop) (w : World) : Prop := ∀ b W W', Q b W → Off (YD w b) W W' → Q b W'
section
variable {Q : Nat → World → Prop} {w W W' : World} {cs xs ys : Array Value} {o : Ob} {n : Nat} {A : Option Addr} {c q b : Nat}
theorem Dl.start (hQ : Stays Q w) (h : Dp w W cs ys o n A c q b) (hq : Q b W) (ho : Off (fun k => k = w.heap.size + 1 + 1) W W') (hx : Blk W' (w.heap.size + 1 + 1) 39 xs) : Dl Q w W' xs o n A c q b := by
  obtain ⟨ws, hr⟩ := h.row
  have h1 := h.hq
  exact ⟨h.dz.r.same (ho.block _ h.dz.r.lt (fun e => by have e' : w.heap.size + 1 = w.heap.size + 1 + 1 := e; omega)), hx, h.i.same (ho.block _ h.i.lt (fun e => by have e' : q = w.heap.size + 1 + 1 := e; omega)),
    ⟨ws, hr.same ho.size fun p e => ho.block _ (hr.blk p e).2.2.2 fun e' => by have e' : p.block = w.heap.size + 1 + 1 := e'; have := (hr.blk p e).2.2.1; omega⟩, h.hq, h.hA, h.hb, hQ _ _ _ hq (ho.mono fun k _ e => by have e' : k = w.heap.size + 1 + 1 := e; exact ⟨by omega, by omega⟩)⟩
theorem Dl.below (hQ : Stays Q w) (h : Dl Q w W xs o n A c q b) (hb : Below W.heap.size W W') : Dl Q w W' xs o n A c q b := by
  obtain ⟨ws, hr⟩ := h.row
  exact ⟨h.r.below hb h.r.lt, h.x.below hb h.x.lt, h.i.below hb h.i.lt, ⟨ws, hr.below hb⟩, h.hq, h.hA, h.hb, hQ _ _ _ h.q_ (Off.of_new hb _)⟩
theorem Dl.step (hQ : Stays Q w) {p : Nat} (h : Dl Q w W xs o n (some ⟨p, 0, none⟩) c q b) (i : Nat) (z : Wd) (hz : z.ok) : Dl Q w ((W.setCell ⟨p, i * 2, none⟩ (.int .u8 (z.k : Int))).setCell ⟨p, i * 2 + 1, none⟩ (.int .i64 z.n)) xs o n (some ⟨p, 0, none⟩) c q b := by
  obtain ⟨ws, hr⟩ := h.row
  have h1 := h.hq
  have h2 := (hr.blk _ rfl).2.2.1
  have h3 := h.hA _ rfl
  have h2 : w.heap.size + 3 ≤ p := h2
  have h3 : p ≠ q ∧ p < b := h3
  have ho : Off (fun k => k = p) W ((W.setCell ⟨p, i * 2, none⟩ (.int .u8 (z.k : Int))).setCell ⟨p, i * 2 + 1, none⟩ (.int .i64 z.n)) := offS (Off.setc _ _ _ _) _ _ _ rfl
  exact ⟨h.r.same (ho.block _ h.r.lt (fun e => by have e' : w.heap.size + 1 = p := e; omega)), h.x.same (ho.block _ h.x.lt (fun e => by have e' : w.heap.size + 1 + 1 = p := e; omega)), h.i.same (ho.block _ h.i.lt (fun e => by have e' : q = p := e; omega)),
    ⟨_, hr.set_ i z hz⟩, h.hq, h.hA, h.hb, hQ _ _ _ h.q_ (ho.mono fun k _ e => by have e' : k = p := e; exact ⟨by omega, by omega⟩)⟩
theorem Dl.fin (hQ : Stays Q w) (h : Dl Q w W xs o n A c q b) (ho : Off (fun k => k = w.heap.size + 1) W W') : ∃ b, Q b W' :=
  ⟨b, hQ _ _ _ h.q_ (ho.mono fun k _ e => by have e' : k = w.heap.size + 1 := e; have := h.hb; exact ⟨by omega, by omega⟩)⟩
theorem off9 (w : World) (g : Nat) (v0 v1 v2 v3 v4 v5 v6 v7 v8 : Value) : Off (fun k => k = g) w (((((((((w.setCell ⟨g, 0, none⟩ v0).setCell ⟨g, 1, none⟩ v1).setCell ⟨g, 2, none⟩ v2).setCell ⟨g, 3, none⟩ v3).setCell ⟨g, 4, none⟩ v4).setCell ⟨g, 5, none⟩ v5).setCell ⟨g, 6, none⟩ v6).setCell ⟨g, 7, none⟩ v7).setCell ⟨g, 8, none⟩ v8) :=
  offS (offS (offS (offS (offS (offS (offS (offS (Off.setc _ _ _ _) _ _ _ rfl) _ _ _ rfl) _ _ _ rfl) _ _ _ rfl) _ _ _ rfl) _ _ _ rfl) _ _ _ rfl) _ _ _ rfl
theorem Blk.set9 {w : World} {g : Nat} {t : TypeId} (h : Blk w g t told0) (v0 v1 v2 v3 v4 v5 v6 v7 v8 : Value) : Blk (((((((((w.setCell ⟨g, 0, none⟩ v0).setCell ⟨g, 1, none⟩ v1).setCell ⟨g, 2, none⟩ v2).setCell ⟨g, 3, none⟩ v3).setCell ⟨g, 4, none⟩ v4).setCell ⟨g, 5, none⟩ v5).setCell ⟨g, 6, none⟩ v6).setCell ⟨g, 7, none⟩ v7).setCell ⟨g, 8, none⟩ v8) g t #[v0, v1, v2, v3, v4, v5, v6, v7, v8] :=
  by
  have := ((((((((h.set_ 0 v0).set_ 1 v1).set_ 2 v2).set_ 3 v3).set_ 4 v4).set_ 5 v5).set_ 6 v6).set_ 7 v7).set_ 8 v8
  simpa [told0] using this
end
section
variable {Q : Nat → World → Prop} {w : World} {o : Ov} {A : Option Addr} {c : Nat} {R : Option Addr} {d : Nat} {hp : Value}
set_option maxRecDepth 20000 in
set_option maxHeartbeats 4000000 in
theorem does_alloc (hQ : Stays Q w) (hv : OpV w o A c R d) (hf : Fits o) (hk : o.kind = 0) {en ee : Nat}
    (hcall : ∀ w1 A1 c1, Below w.heap.size w w1 → WRow (w.heap.size + 3) w1 A1 o.o.ws.length c1 o.o.ws → (∀ p : Addr, A1 = some p → p.block < w1.heap.size) → Calls Try.prog 36 #[hp, .agg #[.int .u8 (o.o.k : Int), .int .i64 o.o.tag, .slice A1 o.o.ws.length c1, .string (str o.o.t)]] w1 fun fn w' => fn = .returned (.tuple #[.int .i64 (en : Int), .int .i64 (ee : Int)]) ∧ Q w1.heap.size w' ∧ Keep (YD w w1.heap.size) w1 w') :
    Calls Try.prog 16 #[hp, .agg #[.int .i64 o.kind, .int .i64 o.k, .int .i64 o.i, .int .u8 (o.o.k : Int), .int .i64 o.o.tag, .slice A o.o.ws.length c, .string (str o.o.t), .int .u8 (o.w.k : Int), .int .i64 o.w.n, .slice R o.roots.length d]] w fun fn w' => fn = .returned (.agg #[.int .u8 0, .int .i64 0, .slice none 0 0, .string ⟨#[]⟩, .int .u8 0, .int .i64 0, .int .i64 (en : Int), .bool false, .int .i64 (ee : Int)]) ∧ ∃ b, Q b w' := by
  obtain ⟨kind, k, i, ⟨ok, tag, ws, t⟩, ⟨wk, wn⟩, roots⟩ := o
  obtain ⟨n, hn⟩ : ∃ n, ws.length = n := ⟨_, rfl⟩
  obtain ⟨m, hm⟩ : ∃ m, roots.length = m := ⟨_, rfl⟩
  have hk : kind = 0 := hk
  subst hk
  have hl : n ≤ 16384 := by rw [← hn]; exact hf.1
  have HCP := copyobj_any ⟨ok, tag, ws, t⟩ A c (wD w #[.int .i64 0, .int .i64 k, .int .i64 i, .int .u8 (ok : Int), .int .i64 tag, .slice A n c, .string (str t), .int .u8 (wk : Int), .int .i64 wn, .slice R m d]) (by have := hf.1; dsimp only at this ⊢; omega) (hv.words.below (wD_below _ _))
  have hz := Dz.new w #[.int .i64 0, .int .i64 k, .int .i64 i, .int .u8 (ok : Int), .int .i64 tag, .slice A n c, .string (str t), .int .u8 (wk : Int), .int .i64 wn, .slice R m d]
  dsimp only at hcall HCP hz ⊢
  rw [hn] at hcall HCP
  rw [hn, hm]
  have HC := Lib.hid (And.intro hcall (And.intro hQ (And.intro hn hz)))
  replace HCP := Lib.hid HCP
  clear hcall hQ hn hm hz hv hf
  go_enter Try.func16, Try.ntmps16
  go_wp2_with fail
  refine HCP.out.mono ?_
  rintro e wc ⟨v, A1, c1, rfl, hob, hb⟩
  obtain ⟨rfl, hrow⟩ := hob
  dsimp only at hrow ⊢
  rw [HC.out.2.2.1] at hrow ⊢
  rw [wD_size] at hrow
  obtain ⟨w1, hw1⟩ : ∃ w1, wc.alloc (.cells #[.int .u8 (ok : Int), .int .i64 tag, .slice A1 n c1, .string (str t)] 35) = w1 := ⟨_, rfl⟩
  have hsz := hb.size
  rw [wD_size] at hsz
  have hp1 := Dp.new (o := ⟨ok, tag, ws, t⟩) (HC.out.2.2.2.below hb) hsz (hrow.mono (by omega))
  dsimp only at hp1
  rw [hw1] at hp1
  have hs1 : w1.heap.size = wc.heap.size + 1 := by rw [← hw1]; simp
  have hbw : Below wc.heap.size wc w1 := by rw [← hw1]; exact (Below.refl _ _).alloc (Nat.le_refl _) _
  have hrow1 : WRow (w.heap.size + 3) w1 A1 n c1 ws := (hrow.mono (B' := w.heap.size + 3) (by omega)).below hbw
  have hb1 : Below w.heap.size w w1 := (wD_below w _).trans ((hb.mono (by rw [wD_size]; omega)).trans (by rw [← hw1]; exact (Below.refl _ _).alloc (by omega) _))
  have H1 := Lib.hid (HC.out.1 w1 A1 c1 hb1 hrow1 (fun p e => (hrow1.blk p e).2.2.2))
  rw [hs1] at H1
  have c0 := hp1.dz.op.cell 0
  have c1' := hp1.dz.op.cell 1
  have c2 := hp1.dz.op.cell 2
  have c7 := hp1.dz.op.cell 7
  have c8 := hp1.dz.op.cell 8
  have i0 := hp1.i.cell 0
  have i1 := hp1.i.cell 1
  have i2 := hp1.i.cell 2
  have i3 := hp1.i.cell 3
  simp only [List.getElem?_toArray, List.getElem?_cons_zero, List.getElem?_cons_succ] at c0 c1' c2 c7 c8 i0 i1 i2 i3
  have HP := Lib.hid hp1
  clear hp1 hs1 hb1 hb hbw hrow1 hsz hrow HCP
  go_wp2_with fail
  refine H1.out.mono ?_
  rintro e w2 ⟨rfl, hq, hkp⟩
  have hp2 := HP.out.keep hkp
  have x4 := hp2.dz.x.cell 4
  have x5 := hp2.dz.x.cell 5
  have x6 := hp2.dz.x.cell 6
  have x7 := hp2.dz.x.cell 7
  have x8 := hp2.dz.x.cell 8
  have xf := hp2.dz.x.frozen
  have j2 := hp2.i.cell 2
  simp only [told0, List.getElem?_toArray, List.getElem?_cons_zero, List.getElem?_cons_succ] at x4 x5 x6 x7 x8 j2
  have HF := Lib.hid (And.intro hq hp2)
  clear hq hp2 hkp H1 HP c0 c1' c2 c7 c8 i0 i1 i2 i3
  go_wp2_with fail
  obtain ⟨w3, hw3⟩ : ∃ w3, ((w2.setCell ⟨w.heap.size + 1 + 1, 6, none⟩ (.int .i64 (en : Int))).setCell ⟨w.heap.size + 1 + 1, 8, none⟩ (.int .i64 (ee : Int))) = w3 := ⟨_, rfl⟩
  have hd0 : Dl Q w w3 #[.int .u8 0, .int .i64 0, .slice none 0 0, .string ⟨#[]⟩, .int .u8 0, .int .i64 0, .int .i64 (en : Int), .bool false, .int .i64 (ee : Int)] ⟨ok, tag, ws, t⟩ n A1 c1 wc.heap.size (wc.heap.size + 1) := by
    rw [← hw3]
    exact Dl.start HC.out.2.1 HF.out.2 HF.out.1 (offS (Off.setc _ _ _ _) _ _ _ rfl) ((HF.out.2.dz.x.set_ 6 (.int .i64 (en : Int))).set_ 8 (.int .i64 (ee : Int)))
  rw [hw3]
  have HD0 := Lib.hid hd0
  have HQ := Lib.hid HC.out.2.1
  clear hd0 hw3 HF HC x4 x5 x6 x7 x8 xf j2
  go_loopw [11] (fun iv wr => ∃ i : Nat, i ≤ n ∧ iv = .int .i64 (i : Int) ∧ Hid (Dl Q w wr #[.int .u8 0, .int .i64 0, .slice none 0 0, .string ⟨#[]⟩, .int .u8 0, .int .i64 0, .int .i64 (en : Int), .bool false, .int .i64 (ee : Int)] ⟨ok, tag, ws, t⟩ n A1 c1 wc.heap.size (wc.heap.size + 1))) (fun iv _ => n - (intOf iv).toNat)
  case atStart => exact ⟨0, Nat.zero_le _, rfl, HD0⟩
  case round =>
    clear HD0
    obtain ⟨r, hr, rfl, hI⟩ := hrel
    by_cases hlt : r < n
    · have hd : decide ((r : Int) < (n : Int)) = true := by simpa using hlt
      obtain ⟨ws2, hrow⟩ := hI.out.row
      obtain ⟨p, x, rfl, _, _, hpl, _, p0, p1, pf⟩ := hrow.at_ hlt
      have j2 := hI.out.i.cell 2
      have j2l := hI.out.i.lt
      simp only [List.getElem?_toArray, List.getElem?_cons_zero, List.getElem?_cons_succ] at j2
      clear hrow
      go_wp2_with fail
      go_region_with (first
        | (go_at_call 41; refine (number_any 77 _).mono ?_; rintro e v2 ⟨rfl, hb2⟩
           have hb2 : Below wr.heap.size wr v2 := Below.trans (⟨rfl, rfl, rfl, Nat.le_refl _, fun _ _ => rfl⟩ : Below wr.heap.size wr wr.drew) hb2
           have j2 := (hb2.cell (p := ⟨wc.heap.size, 2, none⟩) j2l).trans j2
           have p0 := (hb2.cell (p := ⟨p, r * 2, none⟩) hpl).trans p0
           have p1 := (hb2.cell (p := ⟨p, r * 2 + 1, none⟩) hpl).trans p1
           have pf : ∀ j, v2.frozen? ⟨p, j, none⟩ = false := fun j => (World.frozen?_of_block (a := ⟨p, j, none⟩) (hb2.block p hpl)).trans (pf j)
           have HI2 := Lib.hid ((hI.out.below HQ.out hb2).step HQ.out r ⟨1, 77⟩ ⟨by show 1 < 256; omega, by show (-9223372036854775808 : Int) ≤ 77; omega, by show (77 : Int) < 9223372036854775808; omega⟩)
           clear hb2))
      all_goals
        go_wp2_with fail
        go_roundw
        case rel => exact ⟨r + 1, by omega, by go_num, HI2⟩
        case measure => simp [intOf]; omega
    · obtain rfl : n = r := by omega
      have hd : decide ((n : Int) < (n : Int)) = false := by simp
      have j2 := hI.out.i.cell 2
      have x0 := hI.out.x.cell 0
      have x1 := hI.out.x.cell 1
      have x2 := hI.out.x.cell 2
      have x3 := hI.out.x.cell 3
      have x4 := hI.out.x.cell 4
      have x5 := hI.out.x.cell 5
      have x6 := hI.out.x.cell 6
      have x7 := hI.out.x.cell 7
      have x8 := hI.out.x.cell 8
      have y0 := hI.out.r.cell 0
      have y1 := hI.out.r.cell 1
      have y2 := hI.out.r.cell 2
      have y3 := hI.out.r.cell 3
      have y4 := hI.out.r.cell 4
      have y5 := hI.out.r.cell 5
      have y6 := hI.out.r.cell 6
      have y7 := hI.out.r.cell 7
      have y8 := hI.out.r.cell 8
      have yf := hI.out.r.frozen
      simp only [told0, List.getElem?_toArray, List.getElem?_cons_zero, List.getElem?_cons_succ] at j2 x0 x1 x2 x3 x4 x5 x6 x7 x8 y0 y1 y2 y3 y4 y5 y6 y7 y8
      have HI := Lib.hid hI.out
      clear hI
      go_wp2_with fail
      have HB9 := HI.out.r.set9 (.int .u8 0) (.int .i64 0) (.slice none 0 0) (.string ⟨#[]⟩) (.int .u8 0) (.int .i64 0) (.int .i64 (en : Int)) (.bool false) (.int .i64 (ee : Int))
      refine bodyPost_ret (results_cell_row rfl _ _ (w.heap.size + 1) 39 _ (0, 0) _ rfl HB9 Try.underlying39 rfl (by kernel_rfl)) rfl ?_
      exact ⟨rfl, HI.out.fin HQ.out (off9 _ _ _ _ _ _ _ _ _ _ _)⟩
end
end Go.Proofs.Ytclkkfffecmjnaa
