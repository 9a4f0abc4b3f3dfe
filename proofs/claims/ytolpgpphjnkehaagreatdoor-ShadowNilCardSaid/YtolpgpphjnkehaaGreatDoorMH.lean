/- Commit; a space as it should be. -/
import Derived.Test.YtolpgpphjnkehaaGreatDoorMG
import Derived.OrdersHeld
import Derived.Deep.RegionHeld3
/- shadow: towards Commit: what stands beside a space; a root that is published under a cache. -/
namespace Go.Proofs.YtolpgpphjnkehaaGreatDoor
set_option maxRecDepth 20000
open Go.RowKit Cac Dsk
open Pag (PM IntsO)
open Pag.Pgs (turnedL partB)
section
variable {w0 w w' : World} {X G : Nat → Prop} {nn most t : Nat} {a : Ad} {v : Sv} {D D' : DS} {Lc Lc' : List Fr}
/-- Blocks beside a space are turned. -/
theorem Spc.side (h : Spc w0 w X nn most t a v D Lc) (ho : Off G w w') (hG : ∀ k, G k → X k ∧ w0.heap.size ≤ k) (Y : Nat → Prop) (hY : ∀ k, Y k → X k ∨ (w.heap.size ≤ k ∧ k < w'.heap.size)) : Spc w0 w' Y nn most t a v D Lc :=
  ⟨CS_turnM h.cs ho (fun k e => ⟨.inl (hG k e).1, (hG k e).2⟩) _ (fun k e => by
      rcases e with e | e
      · rcases hY k e with e | e
        · exact .inl (.inl e)
        · exact .inr e
      · exact .inl (.inr e)), h.m.same ho.size (fun k e => ho.block k (h.m.lt k e) (fun e' => (h.far k e).2 (hG k e').1)), fun k e => ⟨(h.far k e).1, fun hy => by
      rcases hY k hy with h1 | h1
      · exact (h.far k e).2 h1
      · have := h.m.lt k e; omega⟩⟩
theorem Spc.mono (h : Spc w0 w X nn most t a v D Lc) {u : Nat} (hu : t ≤ u) : Spc w0 w X nn most u a v D Lc := ⟨h.cs.mono hu, h.m, h.far⟩
/-- A root is published, beneath a cache without a root's frame. -/
theorem CS_root {cg dg : Nat} (h : CS w0 w X cg dg nn most t D Lc) (hc : Calm Lc) (ht : t < 900000) (hT : Blo.Tab w0) (rb ep c : Nat) (P : List Nat) (A : Option Addr) (M : List UInt8) (hr : RootAt w rb ep P A c M) (hep : ep < 4294967296) (hP : ∀ x ∈ P, x < 65536) (hM : M.length ≤ 200) (hA0 : A = none → M.length = 0 ∧ c = 0) (hA1 : ∀ p : Addr, A = some p → ∃ g o, p = ⟨g, o, none⟩) :
    Calls Tryz.prog 102 #[.pointer (some ⟨rb, 0, none⟩), .pointer (some ⟨dg, 0, none⟩)] w fun e w' => e = .returned (.int .i64 0) ∧ CS w0 w' X cg dg nn most (t + 2) (rootD D ep P M) Lc ∧ Keep X w w' := by
  obtain ⟨⟨mb, n, time, B, E, h1, h2, h5⟩, h3, h4⟩ := h
  refine (root_write h1.run h3.hale h3.top.2.1 ht hT rb ep c P A M hr hep hP hM hA0 hA1).mono ?_
  rintro e w' ⟨rfl, k1, k2⟩
  refine ⟨rfl, ⟨⟨mb, n, time, B, E, h1.step k1 k2, by omega, by omega⟩, ⟨rootD_hale h3.hale h3.top.2.1 ep P M hr.pl hM, fun x hx hd => ?_, fun x hx => ⟨(h3.inn x hx).1, by have := (h3.inn x hx).2.1; omega, (h3.inn x hx).2.2⟩, h3.nodup, h3.len, h3.top⟩, h4⟩, k2.less fun _ e => .inl e⟩
  rw [(rootD_read h3.hale h3.top.2.1 ep P M hr.pl hM x.s).1, if_neg (by have := (hc x hx).2; omega)]
  exact h3.clean x hx hd
end
/-- A root on the way to be published. -/
structure R6 (M : List UInt8) (K : List Nat) (w wx : World) (nb np : Nat) (A : Option Addr) (c : Nat) (e : Nat) (Q : List Nat) : Prop where
  blk : Blk wx nb 108 (rootRow e Q (.pointer (some ⟨np, 0, none⟩)) (.slice A M.length c))
  pm : PM wx np K
  ge : w.heap.size ≤ nb ∧ w.heap.size ≤ np ∧ nb ≠ np
  cap : M.length ≤ c ∧ c ≤ maxLen
  by_ : Bytes wx A M
  ad : ∀ p : Addr, A = some p → ∃ q, p = ⟨q, 0, none⟩ ∧ w.heap.size ≤ q ∧ q < wx.heap.size ∧ q ≠ nb ∧ q ≠ np
  nil_ : A = none → M.length = 0 ∧ c = 0
section
variable {M : List UInt8} {K : List Nat} {w wx w2 : World} {nb np c e : Nat} {A : Option Addr} {Q : List Nat}
theorem R6.of {wd wl : World} (hb : Blk wl nb 108 zeroRow) (hp : PM wl np K) (h1 : wd.heap.size ≤ nb) (h2 : wd.heap.size ≤ np) (h3 : nb ≠ np) (hc : M.length ≤ c ∧ c ≤ maxLen) (hby : Bytes wl A M)
    (hA : ∀ p : Addr, A = some p → ∃ q, p = ⟨q, 0, none⟩ ∧ wd.heap.size ≤ q ∧ q < wl.heap.size ∧ q ≠ nb ∧ q ≠ np) (hn : A = none → M.length = 0 ∧ c = 0) :
    R6 M K wd (wl.setRow nb (rootRow e Q (.pointer (some ⟨np, 0, none⟩)) (.slice A M.length c))) nb np A c e Q :=
  ⟨setRow_heap wl nb zeroRow _ _ _ hb, hp.same (setRow_other wl nb np _ (fun e => h3 e.symm)), ⟨h1, h2, h3⟩, hc, hby.same (by simp) (fun p e _ => setRow_other wl nb _ _ (by obtain ⟨q, rfl, _, _, h, _⟩ := hA p e; exact h)), fun p e => by
    obtain ⟨q, e1, k1, k2, k3, k4⟩ := hA p e
    exact ⟨q, e1, k1, by simpa using k2, k3, k4⟩, hn⟩
theorem R6.base {wd : World} (h : R6 M K wd wx nb np A c e Q) (hs : w.heap.size ≤ wd.heap.size) : R6 M K w wx nb np A c e Q :=
  ⟨h.blk, h.pm, ⟨Nat.le_trans hs h.ge.1, Nat.le_trans hs h.ge.2.1, h.ge.2.2⟩, h.cap, h.by_, fun p ep => by
    obtain ⟨q, e1, k1, k2⟩ := h.ad p ep
    exact ⟨q, e1, Nat.le_trans hs k1, k2⟩, h.nil_⟩
/-- Behind steps that keep all of it. -/
theorem R6.kept (h : R6 M K w wx nb np A c e Q) (hs : wx.heap.size ≤ w2.heap.size) (hk : ∀ k, w.heap.size ≤ k → k < wx.heap.size → (k = nb ∨ k = np ∨ ∃ p : Addr, A = some p ∧ p.block = k) → w2.heap[k]? = wx.heap[k]?) : R6 M K w w2 nb np A c e Q :=
  ⟨Blk.same h.blk (hk nb h.ge.1 (Blk.lt h.blk) (.inl rfl)), h.pm.same (hk np h.ge.2.1 h.pm.blk.lt (.inr (.inl rfl))), h.ge, h.cap, h.by_.same hs (fun p e _ => by
    obtain ⟨q, rfl, h1, h2, _⟩ := h.ad p e
    exact hk q h1 h2 (.inr (.inr ⟨_, e, rfl⟩))), fun p e => by
    obtain ⟨q, e1, h1, h2, h3⟩ := h.ad p e
    exact ⟨q, e1, h1, Nat.lt_of_lt_of_le h2 hs, h3⟩, h.nil_⟩
theorem R6.below (h : R6 M K w wx nb np A c e Q) (hb : Below wx.heap.size wx w2) : R6 M K w w2 nb np A c e Q := h.kept hb.size (fun k _ hk _ => hb.block k hk)
theorem R6.turn (h : R6 M K w wx nb np A c e Q) (i x : Nat) (hi : i < Q.length) : R6 M K w (wx.setCell ⟨nb, 1 + i, none⟩ (.int .i64 (x : Int))) nb np A c e (Q.set i x) := by
  have hb := Blk.set_ h.blk (1 + i) (.int .i64 (x : Int))
  rw [rootRow_p e Q _ _ i x hi] at hb
  have ho : ∀ j, j ≠ nb → (wx.setCell ⟨nb, 1 + i, none⟩ (.int .i64 (x : Int))).heap[j]? = wx.heap[j]? := fun j hj => Below.heap_setCell _ _ _ _ hj
  have hs : (wx.setCell ⟨nb, 1 + i, none⟩ (.int .i64 (x : Int))).heap.size = wx.heap.size := by simp [World.setCell]
  exact ⟨hb, h.pm.same (ho _ (fun e => h.ge.2.2 e.symm)), h.ge, h.cap, h.by_.same (by rw [hs]; exact Nat.le_refl _) (fun p ep _ => by
    obtain ⟨q, rfl, _, _, h4, _⟩ := h.ad p ep
    exact ho q h4), fun p ep => by
    obtain ⟨q, e1, k1, k2, k3⟩ := h.ad p ep
    exact ⟨q, e1, k1, by rw [hs]; exact k2, k3⟩, h.nil_⟩
theorem R6.part (h : R6 M K w wx nb np A c e Q) {i x : Nat} (hx : Q[i]? = some x) : wx.cell? ⟨nb, 1 + i, none⟩ = some (.int .i64 (x : Int)) := (Blk.cell h.blk (1 + i)).trans (by
  have hi := (List.getElem?_eq_some_iff.1 hx).1
  unfold rootRow
  rw [List.getElem?_toArray, List.append_assoc, List.getElem?_append_right (by simp), List.getElem?_append_left (by simp; omega), List.getElem?_map]
  simp [hx])
theorem R6.rootAt (h : R6 M K w wx nb np A c e Q) (hQ : Q.length = 9) : RootAt wx nb e Q A c M :=
  ⟨(Blk.cell h.blk 0).trans (by unfold rootRow; simp), fun i x hx => h.part hx, (Blk.cell h.blk 11).trans (by unfold rootRow; rw [List.getElem?_toArray, List.append_assoc, List.getElem?_append_right (by simp), List.getElem?_append_right (by simp [hQ])]; simp [hQ]), h.by_, hQ, ⟨Blk.lt h.blk, fun p ep => by
    obtain ⟨q, rfl, _, h2, _⟩ := h.ad p ep
    exact h2⟩⟩
end
theorem putP_mem (W : List Nat) : ∀ (P F : List Nat) (x : Nat), x ∈ putP P W F → x ∈ P ∨ x ∈ F := by
  induction W with
  | nil => intro P F x h; exact .inl h
  | cons i r ih =>
    intro P F x h
    cases F with
    | nil => exact .inl h
    | cons s F =>
      have h : x ∈ putP (P.set i s) r F := h
      rcases ih _ _ _ h with h | h
      · rcases List.mem_or_eq_of_mem_set h with h | rfl
        · exact .inl h
        · exact .inr List.mem_cons_self
      · exact .inr (List.mem_cons_of_mem _ h)
theorem clr_mem (T : List Nat) : ∀ (P : List Nat) (x : Nat), x ∈ clr P T → x ∈ P ∨ x = 0 := by
  induction T with
  | nil => intro P x h; exact .inl h
  | cons i r ih =>
    intro P x h
    have h : x ∈ clr (P.set i 0) r := h
    rcases ih _ _ h with h | h
    · rcases List.mem_or_eq_of_mem_set h with h | rfl
      · exact .inl h
      · exact .inr rfl
    · exact .inr h
/-- A root is put into a space's cells. -/
def pubW (W : World) (sp e1 q0 q1 q2 q3 q4 q5 q6 q7 q8 np sg : Nat) (mv : Value) : World :=
  ((((((((((((W.setCell ⟨sp, 2, none⟩ (.int .u32 (e1 : Int))).setCell ⟨sp, 3, none⟩ (.int .i64 (q0 : Int))).setCell ⟨sp, 4, none⟩ (.int .i64 (q1 : Int))).setCell ⟨sp, 5, none⟩ (.int .i64 (q2 : Int))).setCell ⟨sp, 6, none⟩ (.int .i64 (q3 : Int))).setCell ⟨sp, 7, none⟩ (.int .i64 (q4 : Int))).setCell ⟨sp, 8, none⟩ (.int .i64 (q5 : Int))).setCell ⟨sp, 9, none⟩ (.int .i64 (q6 : Int))).setCell ⟨sp, 10, none⟩ (.int .i64 (q7 : Int))).setCell ⟨sp, 11, none⟩ (.int .i64 (q8 : Int))).setCell ⟨sp, 12, none⟩ (.pointer (some ⟨np, 0, none⟩))).setCell ⟨sp, 13, none⟩ mv).setCell ⟨sp, 15, none⟩ (.pointer (some ⟨sg, 0, none⟩))
theorem pubW_off (W : World) (sp e1 q0 q1 q2 q3 q4 q5 q6 q7 q8 np sg : Nat) (mv : Value) : Off (fun k => k = sp) W (pubW W sp e1 q0 q1 q2 q3 q4 q5 q6 q7 q8 np sg mv) := by
  unfold pubW
  exact ((((((((((((Off.setc _ _ _ _).trans (Off.setc _ _ _ _)).trans (Off.setc _ _ _ _)).trans (Off.setc _ _ _ _)).trans (Off.setc _ _ _ _)).trans (Off.setc _ _ _ _)).trans (Off.setc _ _ _ _)).trans (Off.setc _ _ _ _)).trans (Off.setc _ _ _ _)).trans (Off.setc _ _ _ _)).trans (Off.setc _ _ _ _)).trans (Off.setc _ _ _ _)).trans (Off.setc _ _ _ _)
theorem spRow_lit (dg cg ep pg og sg p0 p1 p2 p3 p4 p5 p6 p7 p8 : Nat) (mv : Value) : spRow dg cg ep pg og sg [p0, p1, p2, p3, p4, p5, p6, p7, p8] mv = #[.pointer (some ⟨dg, 0, none⟩), .pointer (some ⟨cg, 0, none⟩), .int .u32 (ep : Int), .int .i64 (p0 : Int), .int .i64 (p1 : Int), .int .i64 (p2 : Int), .int .i64 (p3 : Int), .int .i64 (p4 : Int), .int .i64 (p5 : Int), .int .i64 (p6 : Int), .int .i64 (p7 : Int), .int .i64 (p8 : Int), .pointer (some ⟨pg, 0, none⟩), mv, .pointer (some ⟨og, 0, none⟩), .pointer (some ⟨sg, 0, none⟩)] := rfl
theorem pubW_blk {W : World} {sp dg cg ep pg og sg0 p0 p1 p2 p3 p4 p5 p6 p7 p8 : Nat} {mv0 : Value} (h : Blk W sp 128 (spRow dg cg ep pg og sg0 [p0, p1, p2, p3, p4, p5, p6, p7, p8] mv0)) (e1 q0 q1 q2 q3 q4 q5 q6 q7 q8 np sg : Nat) (mv : Value) :
    Blk (pubW W sp e1 q0 q1 q2 q3 q4 q5 q6 q7 q8 np sg mv) sp 128 (spRow dg cg e1 np og sg [q0, q1, q2, q3, q4, q5, q6, q7, q8] mv) := by
  rw [spRow_lit] at h
  have h2 := Blk.set_ h 2 (.int .u32 (e1 : Int))
  have h3 := Blk.set_ h2 3 (.int .i64 (q0 : Int))
  have h4 := Blk.set_ h3 4 (.int .i64 (q1 : Int))
  have h5 := Blk.set_ h4 5 (.int .i64 (q2 : Int))
  have h6 := Blk.set_ h5 6 (.int .i64 (q3 : Int))
  have h7 := Blk.set_ h6 7 (.int .i64 (q4 : Int))
  have h8 := Blk.set_ h7 8 (.int .i64 (q5 : Int))
  have h9 := Blk.set_ h8 9 (.int .i64 (q6 : Int))
  have h10 := Blk.set_ h9 10 (.int .i64 (q7 : Int))
  have h11 := Blk.set_ h10 11 (.int .i64 (q8 : Int))
  have h12 := Blk.set_ h11 12 (.pointer (some ⟨np, 0, none⟩))
  have h13 := Blk.set_ h12 13 mv
  have h15 := Blk.set_ h13 15 (.pointer (some ⟨sg, 0, none⟩))
  clear h h2 h3 h4 h5 h6 h7 h8 h9 h10 h11 h12 h13
  simp only [List.setIfInBounds_toArray, List.set_cons_zero, List.set_cons_succ] at h15
  rw [spRow_lit]
  exact h15
section
variable {w0 w w' : World} {X Y : Nat → Prop} {nn most t : Nat} {a : Ad} {v : Sv} {D D' : DS} {Lc Lc' : List Fr}
/-- A root is the space's. -/
theorem Spc.publish (h : Spc w0 w Y nn most t a v D Lc) {M : List UInt8} {K : List Nat} {wb : World} {nb np c e1 sg : Nat} {A : Option Addr} {Q : List Nat} (hr : R6 M K wb w nb np A c e1 Q) (hQ : Q.length = 9) (hQl : ∀ x ∈ Q, x < 65536) (he1 : e1 < 4294967296) (hM : M.length ≤ 200) (hv : v.O = K)
    (hX : ∀ k, X k → Y k ∧ k < wb.heap.size) (hY : ∀ k, (k = nb ∨ k = np ∨ ∃ p : Addr, A = some p ∧ p.block = k) → Y k) (hw0 : w0.heap.size ≤ wb.heap.size)
    (ho : Off (fun k => k = a.sp) w w') (hb : Blk w' a.sp 128 (spRow a.dg a.cg e1 np a.og sg Q (.slice A M.length c))) (hs : Blk w' sg 126 #[.int .u32 0, .int .i32 0, .int .u32 0, .slice none 0 0]) (hsg : w.heap.size ≤ sg) :
    Spc w0 w' X nn most t ⟨a.sp, a.dg, a.cg, np, a.og, sg, A, c, fun k => a.E k ∨ k = np ∨ ∃ p : Addr, A = some p ∧ p.block = k⟩ ⟨e1, Q, M, K, K, false⟩ D Lc ∧ Keep X w w' := by
  have hXlt : ∀ k, Y k → k < w.heap.size := h.Xlt
  have hspl := h.m.lt _ (.inl rfl)
  have hogl := h.m.lt _ (.inr (.inl rfl))
  have hEl : ∀ k, a.E k → k < w.heap.size := fun k e => h.m.lt k (.inr (.inr (.inr e)))
  have hnsp : ∀ k, Y k → k ≠ a.sp := fun k e e2 => (h.far k (.inl e2)).2 e
  have hnog : ∀ k, Y k → k ≠ a.og := fun k e e2 => (h.far k (.inr (.inl e2))).2 e
  have hE' : ∀ k, (a.E k ∨ k = np ∨ ∃ p : Addr, A = some p ∧ p.block = k) → a.E k ∨ (Y k ∧ wb.heap.size ≤ k) := fun k e => by
    rcases e with e | rfl | ⟨p, ep, rfl⟩
    · exact .inl e
    · exact .inr ⟨hY _ (.inr (.inl rfl)), hr.ge.2.1⟩
    · obtain ⟨q, rfl, h1, _⟩ := hr.ad p ep
      exact .inr ⟨hY _ (.inr (.inr ⟨_, ep, rfl⟩)), h1⟩
  have hzn : ∀ k, (⟨a.sp, a.dg, a.cg, np, a.og, sg, A, c, fun k => a.E k ∨ k = np ∨ ∃ p : Addr, A = some p ∧ p.block = k⟩ : Ad).zn k → a.zn k ∨ (Y k ∧ wb.heap.size ≤ k) ∨ k = sg := fun k e => by
    rcases e with e | e | e | e
    · exact .inl (.inl e)
    · exact .inl (.inr (.inl e))
    · exact .inr (.inr e)
    · rcases hE' k e with e | e
      · exact .inl (.inr (.inr (.inr e)))
      · exact .inr (.inl e)
  have hsgl := hs.lt
  have hoE : ∀ k, a.E k → w'.heap[k]? = w.heap[k]? := fun k e => ho.block k (hEl k e) (fun e2 => h.m.ne.1.1 (by have e3 : k = a.sp := e2; exact e3 ▸ e))
  have hr' := hr.kept ho.size (fun k _ hk he => ho.block k hk (hnsp k (hY k he)))
  refine ⟨⟨CS_turnM h.cs ho (fun k e => by have e2 : k = a.sp := e; rw [e2]; exact ⟨.inr (.inl rfl), (h.far _ (.inl rfl)).1⟩) _ (fun k e => ?_), ⟨hb, hr'.by_, ⟨hr.cap.1, hr.cap.2, hM⟩, fun p e => .inr (.inr ⟨p, e, rfl⟩), hQ, hQl, he1, hr'.pm, .inr (.inl rfl), ?_, ?_, ⟨⟨fun e => ?_, fun e => ?_, fun e => ?_⟩, h.m.ne.2.1, by show a.sp ≠ sg; omega, by show a.og ≠ sg; omega⟩, fun k e => ?_, ⟨hr.nil_, fun p e => by obtain ⟨q, e1, _⟩ := hr.ad p e; exact ⟨q, 0, e1⟩⟩⟩, fun k e => ?_⟩, ⟨ho.size, fun k e => ho.block k (hXlt k (hX k e).1) (hnsp k (hX k e).1)⟩⟩
  · rcases e with e | e
    · exact .inl (.inl (hX k e).1)
    · rcases hzn k e with e | e | e
      · exact .inl (.inr e)
      · exact .inl (.inl e.1)
      · exact .inr (by rw [e]; exact ⟨hsg, hsgl⟩)
  · have h1 := h.m.own.same (w' := w') (ho.block _ hogl (fun e => h.m.ne.2.1 (by have e2 : a.og = a.sp := e; exact e2.symm)))
    rw [hv] at h1
    exact h1
  · unfold St
    simp only [Bool.false_eq_true, if_false]
    exact hs
  · rcases hE' _ e with e | e
    · exact h.m.ne.1.1 e
    · exact hnsp _ e.1 rfl
  · rcases hE' _ e with e | e
    · exact h.m.ne.1.2.1 e
    · exact hnog _ e.1 rfl
  · have e : a.E sg ∨ sg = np ∨ ∃ p : Addr, A = some p ∧ p.block = sg := e
    rcases hE' _ e with e | e
    · have := hEl _ e; omega
    · have := hXlt _ e.1; omega
  · have hsz := ho.size
    rcases hzn k e with e | e | e
    · exact Nat.lt_of_lt_of_le (h.m.lt k e) hsz
    · exact Nat.lt_of_lt_of_le (hXlt k e.1) hsz
    · rw [e]; exact hsgl
  · rcases hzn k e with e | e | e
    · exact ⟨(h.far k e).1, fun hx => (h.far k e).2 (hX k hx).1⟩
    · exact ⟨by omega, fun hx => by have := (hX k hx).2; omega⟩
    · have := h.bel.size
      exact ⟨by omega, fun hx => by have := hXlt k (hX k hx).1; omega⟩
end
end Go.Proofs.YtolpgpphjnkehaaGreatDoor
/- shadow: Commit. -/
namespace Go.Proofs.YtolpgpphjnkehaaGreatDoor
set_option maxRecDepth 20000
open Go.RowKit Cac Dsk
open Pag (PM IntsO)
open Pag.Pgs (turnedL partB)
/-- What Commit answers, and what is behind it. -/
def CmTold (w0 w : World) (X : Nat → Prop) (nn most t : Nat) (a : Ad) (v : Sv) (D : DS) (Lc : List Fr) (M : List UInt8) (e : Ending) (w' : World) : Prop :=
  ∃ D' Lc' a' v', Spc w0 w' X nn most (t + 1040) a' v' D' Lc' ∧ Keep X w w' ∧ a'.sp = a.sp ∧ a'.dg = a.dg ∧
    ((e = .returned (.int .i64 1) ∧ 200 < M.length ∧ v' = v ∧ D' = D ∧ Lc' = Lc) ∨
     (e = .returned (.int .i64 6) ∧ M.length ≤ 200 ∧ (v.ep = 4294967295 ∨ (freeL nn v.P v.L v.O).length < (wrtL v.O (turnedL v.O v.L)).length) ∧ v' = { v with fr := true } ∧ D' = D ∧ Lc' = Lc) ∨
     (e = .returned (.int .i64 0) ∧ M.length ≤ 200 ∧ v.ep ≠ 4294967295 ∧ (wrtL v.O (turnedL v.O v.L)).length ≤ (freeL nn v.P v.L v.O).length ∧ v' = ⟨v.ep + 1, newP nn v.P v.L v.O, M, v.O, v.O, false⟩ ∧
       ∃ D1 L1 D2 t2, CmI v.O (wrtL v.O (turnedL v.O v.L)) (freeL nn v.P v.L v.O) D Lc (wrtL v.O (turnedL v.O v.L)).length D1 L1 ∧ Sta nn most t2 D2 Lc' ∧ Lc'.map key = L1.map key ∧ (∀ x ∈ Lc', x.dirty = false) ∧ (∀ j, what D2 Lc' j = what D1 L1 j) ∧ D' = rootD D2 (v.ep + 1) (newP nn v.P v.L v.O) M))
/-- Between the rounds of what is turned. -/
structure C1 (M : List UInt8) (O : List Nat) (w w8 wr : World) (nb np : Nat) (A : Option Addr) (c e1 : Nat) (P T : List Nat) (j : Nat) (wv : Value) : Prop where
  r6 : R6 M O w wr nb np A c e1 (clr P (T.take j))
  ints : IntsO wr wv (wrtL O (T.take j))
  own : ∀ k, wv.ownBlock = some k → w8.heap.size ≤ k
  off : Off (fun k => k = nb) w8 wr
  lt : nb < w8.heap.size ∧ np < w8.heap.size ∧ ∀ p : Addr, A = some p → p.block < w8.heap.size
section
variable {M : List UInt8} {O : List Nat} {w w8 wr w2 : World} {nb np c e1 j i : Nat} {A : Option Addr} {P T : List Nat} {wv : Value}
theorem C1.store (h : C1 M O w w8 wr nb np A c e1 P T j wv) (hi : T[j]? = some i) (hP : P.length = 9) (hi9 : i < 9) : R6 M O w (wr.setCell ⟨nb, 1 + i, none⟩ (.int .i64 0)) nb np A c e1 (clr P (T.take (j + 1))) ∧ IntsO (wr.setCell ⟨nb, 1 + i, none⟩ (.int .i64 0)) wv (wrtL O (T.take j)) ∧ Off (fun k => k = nb) w8 (wr.setCell ⟨nb, 1 + i, none⟩ (.int .i64 0)) := by
  obtain ⟨hj, e⟩ := List.getElem?_eq_some_iff.1 hi
  refine ⟨?_, h.ints.same (fun k hk => Below.heap_setCell _ _ _ _ (fun e2 => by have e3 : k = nb := e2; have := h.own k hk; have := h.lt.1; omega)), h.off.trans (Off.setc _ _ _ _)⟩
  rw [List.take_succ_eq_append_getElem hj, e, clr_snoc]
  exact h.r6.turn i 0 (by rw [clr_len, hP]; exact hi9)
/-- Behind the part that is told. -/
theorem C1.skip (h : C1 M O w w8 wr nb np A c e1 P T j wv) (hi : T[j]? = some i) (hP : P.length = 9) (hi9 : i < 9) (hp : partB O i = []) (hb : Below (wr.setCell ⟨nb, 1 + i, none⟩ (.int .i64 0)).heap.size (wr.setCell ⟨nb, 1 + i, none⟩ (.int .i64 0)) w2) : C1 M O w w8 w2 nb np A c e1 P T (j + 1) wv := by
  obtain ⟨k1, k2, k3⟩ := h.store hi hP hi9
  obtain ⟨hj, e⟩ := List.getElem?_eq_some_iff.1 hi
  refine ⟨k1.below hb, ?_, h.own, k3.trans (Off.of_below hb _ (fun _ _ _ => by omega)), h.lt⟩
  have e2 : wrtL O (T.take (j + 1)) = wrtL O (T.take j) := by
    rw [List.take_succ_eq_append_getElem hj, e]
    unfold wrtL
    rw [List.filter_append]
    simp [hp]
  rw [e2]
  exact k2.same (fun k hk => hb.block k (k2.lt k hk))
theorem C1.mid (h : C1 M O w w8 wr nb np A c e1 P T j wv) (hi : T[j]? = some i) (hP : P.length = 9) (hi9 : i < 9) (hb : Below (wr.setCell ⟨nb, 1 + i, none⟩ (.int .i64 0)).heap.size (wr.setCell ⟨nb, 1 + i, none⟩ (.int .i64 0)) w2) : IntsO w2 wv (wrtL O (T.take j)) := by
  obtain ⟨k1, k2, k3⟩ := h.store hi hP hi9
  exact k2.same (fun k hk => hb.block k (k2.lt k hk))
theorem C1.next (h : C1 M O w w8 wr nb np A c e1 P T j wv) (hi : T[j]? = some i) (hP : P.length = 9) (hi9 : i < 9) (hp : partB O i ≠ []) (hb : Below (wr.setCell ⟨nb, 1 + i, none⟩ (.int .i64 0)).heap.size (wr.setCell ⟨nb, 1 + i, none⟩ (.int .i64 0)) w2) {w3 : World} {v' : Value} (h1 : IntsO w3 v' (wrtL O (T.take j) ++ [i])) (h2 : w2.grownBy w3 wv.ownBlock) (h3 : v'.ownBlock = wv.ownBlock ∨ v'.ownBlock = some (w2.heap.size + 1)) : C1 M O w w8 w3 nb np A c e1 P T (j + 1) v' := by
  obtain ⟨k1, k2, k3⟩ := h.store hi hP hi9
  obtain ⟨hj, e⟩ := List.getElem?_eq_some_iff.1 hi
  have h9 := k1.below hb
  have hof := k3.trans (Off.of_below hb (fun k => k = nb) (fun _ _ _ => by omega))
  have hown : ∀ k, wv.ownBlock = some k → w8.heap.size ≤ k := h.own
  have hs2 := hof.size
  refine ⟨h9.kept h2.size (fun k _ hk he => h2.block k hk (fun e2 => ?_)), ?_, fun k hk => ?_, hof.then (Off.of_grown h2) (fun q hq e2 => by have := hown q e2; omega), h.lt⟩
  · have h5 := hown k e2.symm
    rcases he with rfl | rfl | ⟨p, ep, rfl⟩
    · have := h.lt.1; omega
    · have := h.lt.2.1; omega
    · have := h.lt.2.2 p ep; omega
  · have e2 : wrtL O (T.take (j + 1)) = wrtL O (T.take j) ++ [i] := by
      rw [List.take_succ_eq_append_getElem hj, e]
      unfold wrtL
      rw [List.filter_append]
      have : 0 < (partB O i).length := List.length_pos_iff.2 hp
      simp [this]
    rw [e2]
    exact h1
  · rcases h3 with h3 | h3
    · exact hown k (by rw [← h3]; exact hk)
    · rw [h3] at hk
      have := Option.some.inj hk
      omega
end
/-- Between the rounds of what is written. -/
structure C2 (M : List UInt8) (O : List Nat) (w0 w wB wr : World) (Y : Nat → Prop) (nn most t : Nat) (a : Ad) (v : Sv) (D : DS) (Lc : List Fr) (W F : List Nat) (nb np : Nat) (A : Option Addr) (c e1 : Nat) (Q : List Nat) (k : Nat) (D' : DS) (L' : List Fr) : Prop where
  spc : Spc w0 wr Y nn most (t + k) a v D' L'
  cm : CmI O W F D Lc k D' L'
  kp : Keep (fun j => (Y j ∧ j ≠ nb) ∨ a.zn j) wB wr
  r6 : R6 M O w wr nb np A c e1 (putP Q (W.take k) F)
section
variable {M : List UInt8} {O : List Nat} {w0 w wB wr w11 w12 : World} {Y : Nat → Prop} {nn most t : Nat} {a : Ad} {v : Sv} {D D' D2 : DS} {Lc L' L2 : List Fr} {W F : List Nat} {nb np c e1 k i s gs : Nat} {A : Option Addr} {Q : List Nat}
theorem C2.r6at (h : C2 M O w0 w wB wr Y nn most t a v D Lc W F nb np A c e1 Q k D' L') (hb : Below wr.heap.size wr w11) (hk : Keep (fun j => (Y j ∨ j = gs) ∨ a.zn j) w11 w12) (hr : ∀ j, (j = nb ∨ j = np ∨ ∃ p : Addr, A = some p ∧ p.block = j) → Y j) : R6 M O w w12 nb np A c e1 (putP Q (W.take k) F) :=
  (h.r6.below hb).kept hk.size (fun j _ _ he => hk.at_ j (.inl (.inl (hr j he))))
theorem C2.next (h : C2 M O w0 w wB wr Y nn most t a v D Lc W F nb np A c e1 Q k D' L') (hWk : W[k]? = some i) (hFk : F[k]? = some s) (hFn : F.Nodup) (hQ : Q.length = 9) (hi9 : i < 9) (hb : Below wr.heap.size wr w11) (hw : Wr D' L' s (Blo.blockOf 2 (partB O i)) D2 L2)
    (hsp : Spc w0 w12 (fun j => Y j ∨ j = gs) nn most (t + k + 1) a v D2 L2) (hk : Keep (fun j => (Y j ∨ j = gs) ∨ a.zn j) w11 w12) (hnb : Y nb ∧ w0.heap.size ≤ nb) (hr : ∀ j, (j = nb ∨ j = np ∨ ∃ p : Addr, A = some p ∧ p.block = j) → Y j) :
    C2 M O w0 w wB (w12.setCell ⟨nb, 1 + i, none⟩ (.int .i64 (s : Int))) Y nn most t a v D Lc W F nb np A c e1 Q (k + 1) D2 L2 := by
  have h6 := h.r6at hb hk hr
  refine ⟨?_, h.cm.next hFn hFk hWk hw, ?_, ?_⟩
  · exact hsp.side (Off.setc _ _ _ _) (fun q e => by have e2 : q = nb := e; rw [e2]; exact ⟨.inl hnb.1, hnb.2⟩) Y (fun q e => .inl (.inl e))
  · have k1 : Keep (fun j => (Y j ∧ j ≠ nb) ∨ a.zn j) wr w11 := Keep.of_below hb (fun q e => by
      rcases e with e | e
      · exact h.spc.Xlt q e.1
      · exact h.spc.m.lt q e)
    have k2 : Keep (fun j => (Y j ∧ j ≠ nb) ∨ a.zn j) w11 w12 := hk.less (fun q e => e.imp (fun e => .inl e.1) id)
    have k3 : Keep (fun j => (Y j ∧ j ≠ nb) ∨ a.zn j) w12 (w12.setCell ⟨nb, 1 + i, none⟩ (.int .i64 (s : Int))) := ⟨by simp [World.setCell], fun q e => Below.heap_setCell _ _ _ _ (by
      rcases e with e | e
      · exact e.2
      · intro e2
        have e3 : q = nb := e2
        exact (h.spc.far q e).2 (e3 ▸ hnb.1))⟩
    exact ((h.kp.trans k1).trans k2).trans k3
  · rw [putP_snoc Q W F k i s hWk hFk]
    exact h6.turn i s (by rw [putP_len, hQ]; exact hi9)
end
section
variable {w0 w w' : World} {X : Nat → Prop} {nn most t : Nat} {a : Ad} {v : Sv} {D D' : DS} {Lc Lc' : List Fr}
set_option maxHeartbeats 2000000 in
theorem Spc.commit (h : Spc w0 w X nn most t a v D Lc) (hT : Blo.Tab w0) (hc : Calm Lc) (ht : t < 800000) (Am : Option Addr) (ml cm : Nat) (M : List UInt8) (hml : M.length = ml) (hby : Bytes w Am M) (hn0 : Am = none → ml = 0 ∧ cm = 0) (hn1 : ∀ p : Addr, Am = some p → ∃ g o, p = ⟨g, o, none⟩) :
    Calls Tryz.prog 48 #[.pointer (some ⟨a.sp, 0, none⟩), .slice Am ml cm] w (CmTold w0 w X nn most t a v D Lc M) := by
  have H := Lib.hid (And.intro h (And.intro hT hc))
  obtain ⟨_, _, s2, _, _, s14, _, _⟩ := h.told
  have H1 := Lib.hid h.refuses
  by_cases hlong : 200 < ml
  · have hd : decide ((ml : Int) > 200) = true := by simp; omega
    have HM := Lib.hid (show 200 < M.length by omega)
    clear h hT hc hby hml hlong s2 s14 hn0 hn1
    go_enter Tryz.func48, Tryz.ntmps48
    go_wp2_with fail
    refine H1.out.mono ?_
    rintro e w' ⟨rfl, rfl⟩
    go_wp2_with fail
    go_ret
    exact ⟨D, Lc, a, v, H.out.1.mono (by omega), Keep.of_below (Below.refl _ _) H.out.1.Xlt, rfl, rfl, .inl ⟨rfl, HM.out, rfl, rfl, rfl⟩⟩
  · have hd : decide ((ml : Int) > 200) = false := by simp; omega
    have HML := Lib.hid hml
    have HM200 : Hid (M.length ≤ 200) := Lib.hid (by omega)
    have HCL : Hid (∀ W, Below w.heap.size w W → _) := Lib.hid (fun W hW => clone_gen Am ml cm M W hml (by omega) (hby.below hW) hn0 hn1)
    have HCP : Hid (∀ W, Below w.heap.size w W → _) := Lib.hid (fun W hW => Pag.copy_some a.og v.O W (h.m.own.below hW))
    obtain ⟨e1, he1⟩ : ∃ e1 : Nat, (v.ep + 1) % 4294967296 = e1 := ⟨_, rfl⟩
    have HE1 : Hid (IntKind.u32.wrap ((v.ep : Int) + 1) = (e1 : Int)) := Lib.hid (by rw [IntKind.wrap_u32]; omega)
    obtain ⟨ep, hep⟩ : ∃ ep, v.ep = ep := ⟨_, rfl⟩
    obtain ⟨O, hO⟩ : ∃ O, v.O = O := ⟨_, rfl⟩
    obtain ⟨sp, hsp⟩ : ∃ sp, a.sp = sp := ⟨_, rfl⟩
    obtain ⟨og, hog⟩ : ∃ og, a.og = og := ⟨_, rfl⟩
    obtain ⟨p0, p1, p2, p3, p4, p5, p6, p7, p8, hPP⟩ : ∃ p0 p1 p2 p3 p4 p5 p6 p7 p8, v.P = [p0, p1, p2, p3, p4, p5, p6, p7, p8] := by
      match hP : v.P, h.m.pl with
      | [p0, p1, p2, p3, p4, p5, p6, p7, p8], _ => exact ⟨p0, p1, p2, p3, p4, p5, p6, p7, p8, rfl⟩
    have hpc : ∀ (i x : Nat), v.P[i]? = some x → w.cell? ⟨a.sp, 3 + i, none⟩ = some (.int .i64 (x : Int)) := fun i x hx => (Blk.cell h.m.head (3 + i)).trans (spRow_part _ _ _ _ _ _ _ _ hx)
    rw [hPP] at hpc
    have s3 := hpc 0 p0 rfl
    have s4 := hpc 1 p1 rfl
    have s5 := hpc 2 p2 rfl
    have s6 := hpc 3 p3 rfl
    have s7 := hpc 4 p4 rfl
    have s8 := hpc 5 p5 rfl
    have s9 := hpc 6 p6 rfl
    have s10 := hpc 7 p7 rfl
    have s11 := hpc 8 p8 rfl
    have HSP := Lib.hid (h.m.lt _ (.inl rfl))
    rw [hep] at HE1 he1 s2
    rw [hO, hog] at HCP
    rw [hog] at s14
    rw [hsp] at s2 s3 s4 s5 s6 s7 s8 s9 s10 s11 s14 H1 HSP ⊢
    simp only [Nat.reduceAdd, Nat.add_zero] at s3 s4 s5 s6 s7 s8 s9 s10 s11
    have HV := Lib.hid (And.intro hep (And.intro hO (And.intro hsp (And.intro hog (And.intro hPP he1)))))
    clear h hT hc hby hml hlong hn0 hn1 hpc hep hO hsp hog hPP he1
    go_enter Tryz.func48, Tryz.ntmps48
    go_wp2_with fail
    refine H1.out.mono ?_
    rintro e w' ⟨rfl, rfl⟩
    go_upto_region 6 with fail
    go_cut [6] from 26 to 44 (fun p wx => ∃ nb np A c, p = .pointer (some ⟨nb, 0, none⟩) ∧ Hid (R6 M O w wx nb np A c e1 [p0, p1, p2, p3, p4, p5, p6, p7, p8] ∧ Below w.heap.size w wx))
    case first =>
      refine wp_region_held_drew (S := fun W => Below w.heap.size w W) (by kernel_rfl) (Below.refl _ w).drew (fun hHeld => ?_)
      have Twd : Below w.heap.size w w.drew := (Below.refl _ w).drew
      generalize w.drew = wd at hHeld Twd ⊢
      refine Blo.takeY 0 (some 26) rfl rfl (by kernel_rfl) (by kernel_rfl) (by kernel_rfl) (fun _ _ _ h => h) (by rfl) (v := _) (by (intro _ hSw; (try dsimp only at hSw); go_simp; try with_reducible rfl)) hHeld ?_
      simp only [Act.put, List.setIfInBounds_toArray, List.set_cons_zero, List.set_cons_succ]
      refine Blo.takeY 1 (some 27) rfl rfl (by kernel_rfl) (by kernel_rfl) (by kernel_rfl) (fun _ _ _ h => h) (by rfl) (v := _) (by (intro _ hSw; (try dsimp only at hSw); go_simp; try with_reducible rfl)) hHeld ?_
      simp only [Act.put, List.setIfInBounds_toArray, List.set_cons_zero, List.set_cons_succ]
      refine Blo.takeY 2 (some 28) rfl rfl (by kernel_rfl) (by kernel_rfl) (by kernel_rfl) (fun _ _ _ h => h) (by rfl) (v := _) (by (intro _ hSw; (try dsimp only at hSw); go_simp; try with_reducible rfl)) hHeld ?_
      simp only [Act.put, List.setIfInBounds_toArray, List.set_cons_zero, List.set_cons_succ]
      refine Blo.takeY 3 (some 29) rfl rfl (by kernel_rfl) (by kernel_rfl) (by kernel_rfl) (fun _ _ _ h => h) (by rfl) (v := _) (by (intro _ hSw; (try dsimp only at hSw); go_simp; try with_reducible rfl)) hHeld ?_
      simp only [Act.put, List.setIfInBounds_toArray, List.set_cons_zero, List.set_cons_succ]
      refine Blo.takeY 4 (some 30) rfl rfl (by kernel_rfl) (by kernel_rfl) (by kernel_rfl) (fun _ _ _ h => h) (by rfl) (v := .int .u32 (ep : Int)) (by (intro w9 hSw; have z := (World.cell?_of_block (a := ⟨sp, 2, none⟩) (hSw.block sp HSP.out)).trans s2; clear hSw; go_simp)) hHeld ?_
      simp only [Act.put, List.setIfInBounds_toArray, List.set_cons_zero, List.set_cons_succ]
      refine Blo.takeY 5 (some 31) rfl rfl (by kernel_rfl) (by kernel_rfl) (by kernel_rfl) (fun _ _ _ h => h) (by rfl) (v := _) (by (intro _ hSw; (try dsimp only at hSw); go_simp; try with_reducible rfl)) hHeld ?_
      simp only [Act.put, List.setIfInBounds_toArray, List.set_cons_zero, List.set_cons_succ]
      refine Blo.takeY 6 (some 32) rfl rfl (by kernel_rfl) (by kernel_rfl) (by kernel_rfl) (fun _ _ _ h => h) (by rfl) (v := _) (by (intro _ hSw; (try dsimp only at hSw); go_simp; try with_reducible rfl)) hHeld ?_
      simp only [Act.put, List.setIfInBounds_toArray, List.set_cons_zero, List.set_cons_succ]
      refine Blo.takeY 7 (some 33) rfl rfl (by kernel_rfl) (by kernel_rfl) (by kernel_rfl) (fun _ _ _ h => h) (by rfl) (v := _) (by (intro _ hSw; (try dsimp only at hSw); go_simp; try with_reducible rfl)) hHeld ?_
      simp only [Act.put, List.setIfInBounds_toArray, List.set_cons_zero, List.set_cons_succ]
      refine Blo.takeY 8 (some 34) rfl rfl (by kernel_rfl) (by kernel_rfl) (by kernel_rfl) (fun _ _ _ h => h) (by rfl) (v := _) (by (intro _ hSw; (try dsimp only at hSw); go_simp; try with_reducible rfl)) hHeld ?_
      simp only [Act.put, List.setIfInBounds_toArray, List.set_cons_zero, List.set_cons_succ]
      refine Blo.takeY 9 (some 35) rfl rfl (by kernel_rfl) (by kernel_rfl) (by kernel_rfl) (fun _ _ _ h => h) (by rfl) (v := _) (by (intro _ hSw; (try dsimp only at hSw); go_simp; try with_reducible rfl)) hHeld ?_
      simp only [Act.put, List.setIfInBounds_toArray, List.set_cons_zero, List.set_cons_succ]
      refine Blo.takeY 10 (some 36) rfl rfl (by kernel_rfl) (by kernel_rfl) (by kernel_rfl) (fun _ _ _ h => h) (by rfl) (v := .agg #[.int .i64 (p0 : Int), .int .i64 (p1 : Int), .int .i64 (p2 : Int), .int .i64 (p3 : Int), .int .i64 (p4 : Int), .int .i64 (p5 : Int), .int .i64 (p6 : Int), .int .i64 (p7 : Int), .int .i64 (p8 : Int)]) (by (intro w9 hSw; have z3 := (World.cell?_of_block (a := ⟨sp, 3, none⟩) (hSw.block sp HSP.out)).trans s3; have z4 := (World.cell?_of_block (a := ⟨sp, 4, none⟩) (hSw.block sp HSP.out)).trans s4; have z5 := (World.cell?_of_block (a := ⟨sp, 5, none⟩) (hSw.block sp HSP.out)).trans s5; have z6 := (World.cell?_of_block (a := ⟨sp, 6, none⟩) (hSw.block sp HSP.out)).trans s6; have z7 := (World.cell?_of_block (a := ⟨sp, 7, none⟩) (hSw.block sp HSP.out)).trans s7; have z8 := (World.cell?_of_block (a := ⟨sp, 8, none⟩) (hSw.block sp HSP.out)).trans s8; have z9 := (World.cell?_of_block (a := ⟨sp, 9, none⟩) (hSw.block sp HSP.out)).trans s9; have z10 := (World.cell?_of_block (a := ⟨sp, 10, none⟩) (hSw.block sp HSP.out)).trans s10; have z11 := (World.cell?_of_block (a := ⟨sp, 11, none⟩) (hSw.block sp HSP.out)).trans s11; clear hSw; go_simp)) hHeld ?_
      simp only [Act.put, List.setIfInBounds_toArray, List.set_cons_zero, List.set_cons_succ]
      refine Blo.takeY 11 (some 37) rfl rfl (by kernel_rfl) (by kernel_rfl) (by kernel_rfl) (fun _ _ _ h => h) (by rfl) (v := _) (by (intro _ hSw; (try dsimp only at hSw); go_simp; try with_reducible rfl)) hHeld ?_
      simp only [Act.put, List.setIfInBounds_toArray, List.set_cons_zero, List.set_cons_succ]
      refine Blo.takeY 12 (some 38) rfl rfl (by kernel_rfl) (by kernel_rfl) (by kernel_rfl) (fun _ _ _ h => h) (by rfl) (v := _) (by (intro _ hSw; (try dsimp only at hSw); go_simp; try with_reducible rfl)) hHeld ?_
      simp only [Act.put, List.setIfInBounds_toArray, List.set_cons_zero, List.set_cons_succ]
      refine Blo.takeY 13 (some 39) rfl rfl (by kernel_rfl) (by kernel_rfl) (by kernel_rfl) (fun _ _ _ h => h) (by rfl) (v := _) (by (intro _ hSw; (try dsimp only at hSw); go_simp; try with_reducible rfl)) hHeld ?_
      simp only [Act.put, List.setIfInBounds_toArray, List.set_cons_zero, List.set_cons_succ]
      refine Blo.takeY 14 (some 40) rfl rfl (by kernel_rfl) (by kernel_rfl) (by kernel_rfl) (fun _ _ _ h => h) (by rfl) (v := .pointer (some ⟨og, 0, none⟩)) (by (intro w9 hSw; have z := (World.cell?_of_block (a := ⟨sp, 14, none⟩) (hSw.block sp HSP.out)).trans s14; clear hSw; go_simp)) hHeld ?_
      simp only [Act.put, List.setIfInBounds_toArray, List.set_cons_zero, List.set_cons_succ]
      refine Blo.takeY 16 (some 42) rfl rfl (by kernel_rfl) (by kernel_rfl) (by kernel_rfl) (fun _ _ _ h => h) (by rfl) (v := _) (by (intro _ hSw; (try dsimp only at hSw); go_simp; try with_reducible rfl)) hHeld ?_
      simp only [Act.put, List.setIfInBounds_toArray, List.set_cons_zero, List.set_cons_succ]
      refine wpAnyH_ready (rs := [15, 19]) (by kernel_rfl) (by simp) ?_
      refine AllReadyH.cons rfl (fun K hK => ?_) (AllReadyH.cons rfl (fun K hK => ?_) AllReadyH.nil)
      · go_simp
        refine (HCP.out wd Twd).mono ?_
        rintro e vN ⟨rfl, n1, n2⟩
        obtain ⟨np, hnp⟩ : ∃ np, wd.heap.size = np := ⟨_, rfl⟩
        have HNW := Lib.hid (And.intro n1 (And.intro n2 hnp))
        rw [hnp]
        clear n1 n2 hnp
        have TvN : Below w.heap.size w vN := Twd.trans ((HNW.out.2.1).mono Twd.size)
        refine hK.out _ _ TvN (fun hHeld => ?_)
        clear hK K
        refine wpAnyH_ready (rs := [17, 19]) (by kernel_rfl) (by simp) ?_
        refine AllReadyH.cons rfl (fun K hK => ?_) (AllReadyH.cons rfl (fun K hK => ?_) AllReadyH.nil)
        · go_simp
          refine (HCL.out vN TvN).mono ?_
          rintro e vC ⟨A', c', rfl, n1⟩
          have HCC := Lib.hid n1
          clear n1
          have TvC : Below w.heap.size w vC := TvN.trans ((HCC.out.2.2.2.2).mono TvN.size)
          refine hK.out _ _ TvC (fun hHeld => ?_)
          clear hK K
          refine Blo.takeY 18 (some 44) rfl rfl (by kernel_rfl) (by kernel_rfl) (by kernel_rfl) (fun _ _ _ h => h) (by rfl) (v := .agg #[.int .u32 (e1 : Int), .int .i64 (p0 : Int), .int .i64 (p1 : Int), .int .i64 (p2 : Int), .int .i64 (p3 : Int), .int .i64 (p4 : Int), .int .i64 (p5 : Int), .int .i64 (p6 : Int), .int .i64 (p7 : Int), .int .i64 (p8 : Int), .pointer (some ⟨np, 0, none⟩), .slice A' ml c']) (by (intro _ hSw; (try dsimp only at hSw); go_simp; (try rw [HE1.out]); (try with_reducible rfl))) hHeld ?_
          simp only [Act.put, List.setIfInBounds_toArray, List.set_cons_zero, List.set_cons_succ]
          refine wpAnyH_ready (rs := [19]) (by kernel_rfl) (by simp) ?_
          refine AllReadyH.cons rfl (fun K hK => ?_) AllReadyH.nil
          · obtain ⟨vA, hvA⟩ : ∃ v, vC.alloc (.cells #[.int .u32 0, .int .i64 0, .int .i64 0, .int .i64 0, .int .i64 0, .int .i64 0, .int .i64 0, .int .i64 0, .int .i64 0, .int .i64 0, .pointer none, .slice none 0 0] 108) = v := ⟨_, rfl⟩
            have bvA : Below vC.heap.size vC vA := by rw [← hvA]; exact (Below.refl _ _).alloc (Nat.le_refl _) _
            have BvA : Blk vA vC.heap.size 108 zeroRow := by rw [← hvA]; exact Blk.new _ _ _
            obtain ⟨nb, hnb⟩ : ∃ nb, vC.heap.size = nb := ⟨_, rfl⟩
            have HAL := Lib.hid (And.intro BvA (And.intro bvA (And.intro hnb hvA)))
            clear hvA hnb bvA BvA
            go_simp
            (try rw [HAL.out.2.2.2])
            (try rw [HAL.out.2.2.1])
            have TvA : Below w.heap.size w vA := TvC.trans ((HAL.out.2.1).mono TvC.size)
            refine hK.out _ _ TvA (fun hHeld => ?_)
            clear hK K
            have bA := (Below.refl vA.heap.size vA)
            have bN := (((Below.refl vN.heap.size vN).trans ((HCC.out.2.2.2.2).mono (Below.refl vN.heap.size vN).size)).trans ((HAL.out.2.1).mono ((Below.refl vN.heap.size vN).trans ((HCC.out.2.2.2.2).mono (Below.refl vN.heap.size vN).size)).size))
            have bC := ((Below.refl vC.heap.size vC).trans ((HAL.out.2.1).mono (Below.refl vC.heap.size vC).size))
            have bW := ((((Below.refl wd.heap.size wd).trans ((HNW.out.2.1).mono (Below.refl wd.heap.size wd).size)).trans ((HCC.out.2.2.2.2).mono ((Below.refl wd.heap.size wd).trans ((HNW.out.2.1).mono (Below.refl wd.heap.size wd).size)).size)).trans ((HAL.out.2.1).mono (((Below.refl wd.heap.size wd).trans ((HNW.out.2.1).mono (Below.refl wd.heap.size wd).size)).trans ((HCC.out.2.2.2.2).mono ((Below.refl wd.heap.size wd).trans ((HNW.out.2.1).mono (Below.refl wd.heap.size wd).size)).size)).size))
            have hB8 : Blk vA nb 108 zeroRow := by have h9 := HAL.out.1; rw [HAL.out.2.2.1] at h9; exact h9.below bA h9.lt
            have HB8 : Hid (vA.heap[nb]? = some (.cells zeroRow 108 (0, 0))) := Lib.hid hB8
            have hPN : PM vA np O := by have h9 := HNW.out.1; rw [HNW.out.2.2] at h9; exact h9.below bN
            have hR6 : R6 M O w (vA.setRow nb (rootRow e1 [p0, p1, p2, p3, p4, p5, p6, p7, p8] (.pointer (some ⟨np, 0, none⟩)) (.slice A' M.length c'))) nb np A' c' e1 [p0, p1, p2, p3, p4, p5, p6, p7, p8] := by
              have f1 := HAL.out.2.2.1
              have f2 := HNW.out.2.2
              have t1 := HAL.out.2.1.size
              have t2 := HNW.out.2.1.size
              have t3 := HCC.out.2.2.2.2.size
              have l1 := HAL.out.1.lt
              have l2 := HNW.out.1.blk.lt
              have t4 := Twd.size
              refine R6.base (wd := wd) (R6.of hB8 hPN (by omega) (by omega) (by omega) (by rw [HML.out]; exact HCC.out.1) (HCC.out.2.1.below bC) (fun p e => ?_) (fun e => by rw [HML.out]; exact HCC.out.2.2.2.1 e)) t4
              obtain ⟨q, e1', h1, h2⟩ := HCC.out.2.2.1 p e
              have := bC.size
              exact ⟨q, e1', by omega, by omega, by omega, by omega⟩
            have hbel : Below w.heap.size w (vA.setRow nb (rootRow e1 [p0, p1, p2, p3, p4, p5, p6, p7, p8] (.pointer (some ⟨np, 0, none⟩)) (.slice A' M.length c'))) := below_setRow (Twd.trans (bW.mono Twd.size)) hR6.ge.1 _
            have HR6 := Lib.hid (And.intro hR6 hbel)
            clear bA bN bC bW hB8 hPN hR6 hbel
            refine wpAnyH_ready (rs := [20]) (by kernel_rfl) (by simp) ?_
            refine AllReadyH.cons rfl (fun K hK => ?_) AllReadyH.nil
            refine step_store_row rfl 108 (.tmp 6) (.tmp 44) rfl nb (rootRow e1 [p0, p1, p2, p3, p4, p5, p6, p7, p8] (.pointer (some ⟨np, 0, none⟩)) (.slice A' M.length c')) rfl (by rw [HML.out]; rfl) 108 _ HB8.out root12 rfl (rootRow_one _ _ _ _ rfl rfl) ?_
            refine hK.out _ _ HR6.out.2 (fun hHeld => ?_)
            clear hK K
            refine wpAnyH_done (by kernel_rfl) ?_ _
            clear hHeld
            go_wp2_with fail
            go_meet
            exact ⟨nb, np, A', c', rfl, HR6⟩
        · obtain ⟨vA, hvA⟩ : ∃ v, vN.alloc (.cells #[.int .u32 0, .int .i64 0, .int .i64 0, .int .i64 0, .int .i64 0, .int .i64 0, .int .i64 0, .int .i64 0, .int .i64 0, .int .i64 0, .pointer none, .slice none 0 0] 108) = v := ⟨_, rfl⟩
          have bvA : Below vN.heap.size vN vA := by rw [← hvA]; exact (Below.refl _ _).alloc (Nat.le_refl _) _
          have BvA : Blk vA vN.heap.size 108 zeroRow := by rw [← hvA]; exact Blk.new _ _ _
          obtain ⟨nb, hnb⟩ : ∃ nb, vN.heap.size = nb := ⟨_, rfl⟩
          have HAL := Lib.hid (And.intro BvA (And.intro bvA (And.intro hnb hvA)))
          clear hvA hnb bvA BvA
          go_simp
          (try rw [HAL.out.2.2.2])
          (try rw [HAL.out.2.2.1])
          have TvA : Below w.heap.size w vA := TvN.trans ((HAL.out.2.1).mono TvN.size)
          refine hK.out _ _ TvA (fun hHeld => ?_)
          clear hK K
          refine wpAnyH_ready (rs := [17]) (by kernel_rfl) (by simp) ?_
          refine AllReadyH.cons rfl (fun K hK => ?_) AllReadyH.nil
          · go_simp
            refine (HCL.out vA TvA).mono ?_
            rintro e vC ⟨A', c', rfl, n1⟩
            have HCC := Lib.hid n1
            clear n1
            have TvC : Below w.heap.size w vC := TvA.trans ((HCC.out.2.2.2.2).mono TvA.size)
            refine hK.out _ _ TvC (fun hHeld => ?_)
            clear hK K
            refine Blo.takeY 18 (some 44) rfl rfl (by kernel_rfl) (by kernel_rfl) (by kernel_rfl) (fun _ _ _ h => h) (by rfl) (v := .agg #[.int .u32 (e1 : Int), .int .i64 (p0 : Int), .int .i64 (p1 : Int), .int .i64 (p2 : Int), .int .i64 (p3 : Int), .int .i64 (p4 : Int), .int .i64 (p5 : Int), .int .i64 (p6 : Int), .int .i64 (p7 : Int), .int .i64 (p8 : Int), .pointer (some ⟨np, 0, none⟩), .slice A' ml c']) (by (intro _ hSw; (try dsimp only at hSw); go_simp; (try rw [HE1.out]); (try with_reducible rfl))) hHeld ?_
            simp only [Act.put, List.setIfInBounds_toArray, List.set_cons_zero, List.set_cons_succ]
            have bA := ((Below.refl vA.heap.size vA).trans ((HCC.out.2.2.2.2).mono (Below.refl vA.heap.size vA).size))
            have bN := (((Below.refl vN.heap.size vN).trans ((HAL.out.2.1).mono (Below.refl vN.heap.size vN).size)).trans ((HCC.out.2.2.2.2).mono ((Below.refl vN.heap.size vN).trans ((HAL.out.2.1).mono (Below.refl vN.heap.size vN).size)).size))
            have bC := (Below.refl vC.heap.size vC)
            have bW := ((((Below.refl wd.heap.size wd).trans ((HNW.out.2.1).mono (Below.refl wd.heap.size wd).size)).trans ((HAL.out.2.1).mono ((Below.refl wd.heap.size wd).trans ((HNW.out.2.1).mono (Below.refl wd.heap.size wd).size)).size)).trans ((HCC.out.2.2.2.2).mono (((Below.refl wd.heap.size wd).trans ((HNW.out.2.1).mono (Below.refl wd.heap.size wd).size)).trans ((HAL.out.2.1).mono ((Below.refl wd.heap.size wd).trans ((HNW.out.2.1).mono (Below.refl wd.heap.size wd).size)).size)).size))
            have hB8 : Blk vC nb 108 zeroRow := by have h9 := HAL.out.1; rw [HAL.out.2.2.1] at h9; exact h9.below bA h9.lt
            have HB8 : Hid (vC.heap[nb]? = some (.cells zeroRow 108 (0, 0))) := Lib.hid hB8
            have hPN : PM vC np O := by have h9 := HNW.out.1; rw [HNW.out.2.2] at h9; exact h9.below bN
            have hR6 : R6 M O w (vC.setRow nb (rootRow e1 [p0, p1, p2, p3, p4, p5, p6, p7, p8] (.pointer (some ⟨np, 0, none⟩)) (.slice A' M.length c'))) nb np A' c' e1 [p0, p1, p2, p3, p4, p5, p6, p7, p8] := by
              have f1 := HAL.out.2.2.1
              have f2 := HNW.out.2.2
              have t1 := HAL.out.2.1.size
              have t2 := HNW.out.2.1.size
              have t3 := HCC.out.2.2.2.2.size
              have l1 := HAL.out.1.lt
              have l2 := HNW.out.1.blk.lt
              have t4 := Twd.size
              refine R6.base (wd := wd) (R6.of hB8 hPN (by omega) (by omega) (by omega) (by rw [HML.out]; exact HCC.out.1) (HCC.out.2.1.below bC) (fun p e => ?_) (fun e => by rw [HML.out]; exact HCC.out.2.2.2.1 e)) t4
              obtain ⟨q, e1', h1, h2⟩ := HCC.out.2.2.1 p e
              have := bC.size
              exact ⟨q, e1', by omega, by omega, by omega, by omega⟩
            have hbel : Below w.heap.size w (vC.setRow nb (rootRow e1 [p0, p1, p2, p3, p4, p5, p6, p7, p8] (.pointer (some ⟨np, 0, none⟩)) (.slice A' M.length c'))) := below_setRow (Twd.trans (bW.mono Twd.size)) hR6.ge.1 _
            have HR6 := Lib.hid (And.intro hR6 hbel)
            clear bA bN bC bW hB8 hPN hR6 hbel
            refine wpAnyH_ready (rs := [20]) (by kernel_rfl) (by simp) ?_
            refine AllReadyH.cons rfl (fun K hK => ?_) AllReadyH.nil
            refine step_store_row rfl 108 (.tmp 6) (.tmp 44) rfl nb (rootRow e1 [p0, p1, p2, p3, p4, p5, p6, p7, p8] (.pointer (some ⟨np, 0, none⟩)) (.slice A' M.length c')) rfl (by rw [HML.out]; rfl) 108 _ HB8.out root12 rfl (rootRow_one _ _ _ _ rfl rfl) ?_
            refine hK.out _ _ HR6.out.2 (fun hHeld => ?_)
            clear hK K
            refine wpAnyH_done (by kernel_rfl) ?_ _
            clear hHeld
            go_wp2_with fail
            go_meet
            exact ⟨nb, np, A', c', rfl, HR6⟩
      · obtain ⟨vA, hvA⟩ : ∃ v, wd.alloc (.cells #[.int .u32 0, .int .i64 0, .int .i64 0, .int .i64 0, .int .i64 0, .int .i64 0, .int .i64 0, .int .i64 0, .int .i64 0, .int .i64 0, .pointer none, .slice none 0 0] 108) = v := ⟨_, rfl⟩
        have bvA : Below wd.heap.size wd vA := by rw [← hvA]; exact (Below.refl _ _).alloc (Nat.le_refl _) _
        have BvA : Blk vA wd.heap.size 108 zeroRow := by rw [← hvA]; exact Blk.new _ _ _
        obtain ⟨nb, hnb⟩ : ∃ nb, wd.heap.size = nb := ⟨_, rfl⟩
        have HAL := Lib.hid (And.intro BvA (And.intro bvA (And.intro hnb hvA)))
        clear hvA hnb bvA BvA
        go_simp
        (try rw [HAL.out.2.2.2])
        (try rw [HAL.out.2.2.1])
        have TvA : Below w.heap.size w vA := Twd.trans ((HAL.out.2.1).mono Twd.size)
        refine hK.out _ _ TvA (fun hHeld => ?_)
        clear hK K
        refine wpAnyH_ready (rs := [15]) (by kernel_rfl) (by simp) ?_
        refine AllReadyH.cons rfl (fun K hK => ?_) AllReadyH.nil
        · go_simp
          refine (HCP.out vA TvA).mono ?_
          rintro e vN ⟨rfl, n1, n2⟩
          obtain ⟨np, hnp⟩ : ∃ np, vA.heap.size = np := ⟨_, rfl⟩
          have HNW := Lib.hid (And.intro n1 (And.intro n2 hnp))
          rw [hnp]
          clear n1 n2 hnp
          have TvN : Below w.heap.size w vN := TvA.trans ((HNW.out.2.1).mono TvA.size)
          refine hK.out _ _ TvN (fun hHeld => ?_)
          clear hK K
          refine wpAnyH_ready (rs := [17]) (by kernel_rfl) (by simp) ?_
          refine AllReadyH.cons rfl (fun K hK => ?_) AllReadyH.nil
          · go_simp
            refine (HCL.out vN TvN).mono ?_
            rintro e vC ⟨A', c', rfl, n1⟩
            have HCC := Lib.hid n1
            clear n1
            have TvC : Below w.heap.size w vC := TvN.trans ((HCC.out.2.2.2.2).mono TvN.size)
            refine hK.out _ _ TvC (fun hHeld => ?_)
            clear hK K
            refine Blo.takeY 18 (some 44) rfl rfl (by kernel_rfl) (by kernel_rfl) (by kernel_rfl) (fun _ _ _ h => h) (by rfl) (v := .agg #[.int .u32 (e1 : Int), .int .i64 (p0 : Int), .int .i64 (p1 : Int), .int .i64 (p2 : Int), .int .i64 (p3 : Int), .int .i64 (p4 : Int), .int .i64 (p5 : Int), .int .i64 (p6 : Int), .int .i64 (p7 : Int), .int .i64 (p8 : Int), .pointer (some ⟨np, 0, none⟩), .slice A' ml c']) (by (intro _ hSw; (try dsimp only at hSw); go_simp; (try rw [HE1.out]); (try with_reducible rfl))) hHeld ?_
            simp only [Act.put, List.setIfInBounds_toArray, List.set_cons_zero, List.set_cons_succ]
            have bA := (((Below.refl vA.heap.size vA).trans ((HNW.out.2.1).mono (Below.refl vA.heap.size vA).size)).trans ((HCC.out.2.2.2.2).mono ((Below.refl vA.heap.size vA).trans ((HNW.out.2.1).mono (Below.refl vA.heap.size vA).size)).size))
            have bN := ((Below.refl vN.heap.size vN).trans ((HCC.out.2.2.2.2).mono (Below.refl vN.heap.size vN).size))
            have bC := (Below.refl vC.heap.size vC)
            have bW := ((((Below.refl wd.heap.size wd).trans ((HAL.out.2.1).mono (Below.refl wd.heap.size wd).size)).trans ((HNW.out.2.1).mono ((Below.refl wd.heap.size wd).trans ((HAL.out.2.1).mono (Below.refl wd.heap.size wd).size)).size)).trans ((HCC.out.2.2.2.2).mono (((Below.refl wd.heap.size wd).trans ((HAL.out.2.1).mono (Below.refl wd.heap.size wd).size)).trans ((HNW.out.2.1).mono ((Below.refl wd.heap.size wd).trans ((HAL.out.2.1).mono (Below.refl wd.heap.size wd).size)).size)).size))
            have hB8 : Blk vC nb 108 zeroRow := by have h9 := HAL.out.1; rw [HAL.out.2.2.1] at h9; exact h9.below bA h9.lt
            have HB8 : Hid (vC.heap[nb]? = some (.cells zeroRow 108 (0, 0))) := Lib.hid hB8
            have hPN : PM vC np O := by have h9 := HNW.out.1; rw [HNW.out.2.2] at h9; exact h9.below bN
            have hR6 : R6 M O w (vC.setRow nb (rootRow e1 [p0, p1, p2, p3, p4, p5, p6, p7, p8] (.pointer (some ⟨np, 0, none⟩)) (.slice A' M.length c'))) nb np A' c' e1 [p0, p1, p2, p3, p4, p5, p6, p7, p8] := by
              have f1 := HAL.out.2.2.1
              have f2 := HNW.out.2.2
              have t1 := HAL.out.2.1.size
              have t2 := HNW.out.2.1.size
              have t3 := HCC.out.2.2.2.2.size
              have l1 := HAL.out.1.lt
              have l2 := HNW.out.1.blk.lt
              have t4 := Twd.size
              refine R6.base (wd := wd) (R6.of hB8 hPN (by omega) (by omega) (by omega) (by rw [HML.out]; exact HCC.out.1) (HCC.out.2.1.below bC) (fun p e => ?_) (fun e => by rw [HML.out]; exact HCC.out.2.2.2.1 e)) t4
              obtain ⟨q, e1', h1, h2⟩ := HCC.out.2.2.1 p e
              have := bC.size
              exact ⟨q, e1', by omega, by omega, by omega, by omega⟩
            have hbel : Below w.heap.size w (vC.setRow nb (rootRow e1 [p0, p1, p2, p3, p4, p5, p6, p7, p8] (.pointer (some ⟨np, 0, none⟩)) (.slice A' M.length c'))) := below_setRow (Twd.trans (bW.mono Twd.size)) hR6.ge.1 _
            have HR6 := Lib.hid (And.intro hR6 hbel)
            clear bA bN bC bW hB8 hPN hR6 hbel
            refine wpAnyH_ready (rs := [20]) (by kernel_rfl) (by simp) ?_
            refine AllReadyH.cons rfl (fun K hK => ?_) AllReadyH.nil
            refine step_store_row rfl 108 (.tmp 6) (.tmp 44) rfl nb (rootRow e1 [p0, p1, p2, p3, p4, p5, p6, p7, p8] (.pointer (some ⟨np, 0, none⟩)) (.slice A' M.length c')) rfl (by rw [HML.out]; rfl) 108 _ HB8.out root12 rfl (rootRow_one _ _ _ _ rfl rfl) ?_
            refine hK.out _ _ HR6.out.2 (fun hHeld => ?_)
            clear hK K
            refine wpAnyH_done (by kernel_rfl) ?_ _
            clear hHeld
            go_wp2_with fail
            go_meet
            exact ⟨nb, np, A', c', rfl, HR6⟩
    case rest =>
      obtain ⟨nb, np, A, c, rfl, HR6⟩ := hcut
      obtain ⟨Y6, hY6⟩ : ∃ Y, (fun k => X k ∨ (w.heap.size ≤ k ∧ k < wc.heap.size)) = Y := ⟨_, rfl⟩
      have hS6 := H.out.1.more HR6.out.2 Y6 (fun k e => by rw [← hY6] at e; exact e)
      have HS6 := Lib.hid (And.intro hS6 hY6)
      have hfr := hS6.free
      obtain ⟨F, hF⟩ : ∃ F, freeL nn v.P v.L v.O = F := ⟨_, rfl⟩
      obtain ⟨nf, hnf⟩ : ∃ nf, F.length = nf := ⟨_, rfl⟩
      rw [HV.out.2.2.1, hF, hnf] at hfr
      have HFR := Lib.hid hfr
      have HF := Lib.hid (And.intro hF hnf)
      clear hS6 hY6 hfr hF hnf s2 s3 s4 s5 s6 s7 s8 s9 s10 s11 s14 H1 HCL HCP hd HE1
      go_wp2_with fail
      refine HFR.out.mono ?_
      rintro e w7 ⟨Af, cf, rfl, f1, f2, f3, f4⟩
      obtain ⟨a1, ha1⟩ : ∃ a1, a.grow wc w7 = a1 := ⟨_, rfl⟩
      rw [ha1] at f2 f3
      have hA1 : a1.sp = sp ∧ a1.og = og ∧ a1.pg = a.pg ∧ a1.dg = a.dg ∧ a1.cg = a.cg := by rw [← ha1]; exact ⟨HV.out.2.2.1, HV.out.2.2.2.1, rfl, rfl, rfl⟩
      have HA1 := Lib.hid (And.intro hA1 ha1)
      obtain ⟨t0, _, t2, t12, _, t14, _, _⟩ := f3.told
      rw [hA1.1] at t0 t2 t12 t14
      rw [hA1.2.1] at t14
      have hPMo := f3.m.own
      have hPMp := f3.m.pages
      rw [hA1.2.1] at hPMo
      have HTU := Lib.hid (Pag.turned_any (some ⟨og, 0, none⟩) (some ⟨a1.pg, 0, none⟩) v.O v.L w7.drew (.inr ⟨og, rfl, hPMo.below (Below.refl _ w7).drew⟩) (.inr ⟨a1.pg, rfl, hPMp.below (Below.refl _ w7).drew⟩))
      have d12 : w7.drew.cell? ⟨sp, 12, none⟩ = some (.pointer (some ⟨a1.pg, 0, none⟩)) := t12
      have d14 : w7.drew.cell? ⟨sp, 14, none⟩ = some (.pointer (some ⟨og, 0, none⟩)) := t14
      have hs7 : sp < w7.heap.size := by have := f3.m.lt _ (.inl rfl); rw [hA1.1] at this; exact this
      have HF7 : Hid (∀ W, Below w7.heap.size w7 W → W.cell? ⟨sp, 12, none⟩ = some (.pointer (some ⟨a1.pg, 0, none⟩)) ∧ W.cell? ⟨sp, 14, none⟩ = some (.pointer (some ⟨og, 0, none⟩))) := Lib.hid (fun W hW => ⟨(World.cell?_of_block (a := ⟨sp, 12, none⟩) (hW.block sp hs7)).trans t12, (World.cell?_of_block (a := ⟨sp, 14, none⟩) (hW.block sp hs7)).trans t14⟩)
      have HS7 := Lib.hid (And.intro f1 (And.intro f2 (And.intro f3 (And.intro f4 hs7))))
      clear f1 f2 f3 f4 hA1 ha1 hPMo hPMp t0 t2 t12 t14 hs7 HFR
      go_upto_region 9 with fail
      go_region_held3 (fun W => W.cell? ⟨sp, 12, none⟩ = some (.pointer (some ⟨a1.pg, 0, none⟩)) ∧ W.cell? ⟨sp, 14, none⟩ = some (.pointer (some ⟨og, 0, none⟩)))
        (first | exact ⟨d12, d14⟩ | exact HF7.out _ hw8)
        (first | (go_at_call 99; refine HTU.out.mono ?_; rintro e w8 ⟨lv, rfl, q1, q2, q3⟩; obtain ⟨At, ct, rfl, _, _⟩ := q1.shape; have hw8 : Below w7.heap.size w7 w8 := (Below.refl _ w7).drew.trans q3))
      all_goals
        obtain ⟨T, hTT⟩ : ∃ T, turnedL v.O v.L = T := ⟨_, rfl⟩
        obtain ⟨nT, hnT⟩ : ∃ nT, T.length = nT := ⟨_, rfl⟩
        have hT9 : nT ≤ 9 := by
          rw [← hnT, ← hTT]
          have := List.length_filter_le (fun i => decide (Pag.Pgs.partN v.O i ≠ Pag.Pgs.partN v.L i)) (List.range 9)
          rw [List.length_range] at this
          exact this
        rw [hTT] at q1 q2 ⊢
        rw [hnT] at q1 q2 ⊢
        have hr6c := HR6.out.1
        have hk67 := HS7.out.2.2.2.1
        have hY6 := HS6.out.2
        have hr67 : R6 M O w w7 nb np A c e1 [p0, p1, p2, p3, p4, p5, p6, p7, p8] := hr6c.kept hk67.size (fun k h1 h2 _ => hk67.at_ k (by rw [← hY6]; exact .inr ⟨h1, h2⟩))
        have hr68 := hr67.below hw8
        have hC0 : C1 M O w w8 w8 nb np A c e1 [p0, p1, p2, p3, p4, p5, p6, p7, p8] T 0 (.slice none 0 0) := by
          refine ⟨by rw [List.take_zero]; exact hr68, by rw [List.take_zero]; exact IntsO.nil _, (fun k hk => by cases hk), Off.refl _ _, ?_⟩
          have hs := hw8.size
          refine ⟨by have := Blk.lt hr67.blk; omega, by have := hr67.pm.blk.lt; omega, fun p ep => ?_⟩
          obtain ⟨q, rfl, _, h2, _⟩ := hr67.ad p ep
          show q < w8.heap.size
          omega
        have HC0 := Lib.hid hC0
        have HT := Lib.hid (And.intro hTT (And.intro hnT (And.intro q1 (And.intro q2 (And.intro hw8 hr68)))))
        have hne : nb ≠ sp := by
          have h1 := hr6c.ge.1
          have h2 := HSP.out
          omega
        have hP9 : ([p0, p1, p2, p3, p4, p5, p6, p7, p8] : List Nat).length = 9 := rfl
        obtain ⟨P, hP⟩ : ∃ P, ([p0, p1, p2, p3, p4, p5, p6, p7, p8] : List Nat) = P := ⟨_, rfl⟩
        rw [hP] at HC0 hP9
        have HP := Lib.hid hP
        have hc14 := (World.cell?_of_block (a := ⟨sp, 14, none⟩) (hw8.block sp HS7.out.2.2.2.2)).trans (show w7.cell? ⟨sp, 14, none⟩ = some (.pointer (some ⟨og, 0, none⟩)) from d14)
        clear hTT hnT q1 q2 q3 hr6c hk67 hY6 hr67 hr68 hC0 hw8 d12 d14 hP HTU
        go_wp2_with fail
        go_loopw [8, 10, 58] (fun wv _ iv wr => ∃ j : Nat, j ≤ nT ∧ iv = .int .i64 (j : Int) ∧ Hid (C1 M O w w8 wr nb np A c e1 P T j wv)) (fun _ _ iv _ => nT - (intOf iv).toNat)
        case atStart => exact ⟨0, Nat.zero_le _, rfl, HC0⟩
        case round =>
          clear HC0
          obtain ⟨j, hj, rfl, hI⟩ := hrel
          by_cases hlt : j < nT
          · have hd : decide ((j : Int) < (nT : Int)) = true := by simpa using hlt
            obtain ⟨i, hi⟩ : ∃ i, T[j]? = some i := ⟨_, List.getElem?_eq_getElem (by rw [HT.out.2.1]; exact hlt)⟩
            have hi9 : i < 9 := by
              have h1 := List.mem_of_getElem? hi
              rw [← HT.out.1] at h1
              exact (turnedL_mem.1 h1).1
            obtain ⟨gT, cT, ef, hgl, hcx⟩ := IntsO.get HT.out.2.2.1 j i hi
            simp only [Value.slice.injEq] at ef
            obtain ⟨rfl, he0, rfl⟩ := ef
            clear he0
            have hgT : gT ≠ nb := by
              have h1 := HT.out.2.2.2.1 gT rfl
              have h2 : w7.drew.heap.size = w7.heap.size := rfl
              have h3 := hI.out.lt.1
              have h4 := Blk.lt (hI.out.r6.blk)
              have h5 : nb < w7.heap.size := by
                have h6 := HS7.out.2.2.2.1.size
                have h7 := Blk.lt HR6.out.1.blk
                omega
              omega
            have hcx := (World.cell?_of_block (a := ⟨gT, j, none⟩) (hI.out.off.block gT hgl hgT)).trans hcx
            have hiI : (i : Int) < 9 := by omega
            have hi0 : (0 : Int) ≤ (i : Int) := by omega
            obtain ⟨x, hx⟩ : ∃ x, (clr P (T.take j))[i]? = some x := ⟨_, List.getElem?_eq_getElem (by rw [clr_len, hP9]; exact hi9)⟩
            have cnb := hI.out.r6.part hx
            have fnb := Blk.frozen hI.out.r6.blk (1 + i)
            have hspw : w8.heap.size > sp := by have := HS7.out.2.2.2.2; have := HT.out.2.2.2.2.1.size; omega
            have hc14r := (World.cell?_of_block (a := ⟨sp, 14, none⟩) (hI.out.off.block sp hspw (fun e => hne e.symm))).trans hc14
            have hc14s : (wr.setCell ⟨nb, 1 + i, none⟩ (.int .i64 0)).cell? ⟨sp, 14, none⟩ = some (.pointer (some ⟨og, 0, none⟩)) := (World.cell?_setCell_other _ _ _ _ (by intro e; exact hne (congrArg Addr.block e))).trans hc14r
            have hPMs : PM (wr.setCell ⟨nb, 1 + i, none⟩ (.int .i64 0)) og O := by
              have h1 := HS7.out.2.2.1.m.own
              rw [HA1.out.1.2.1] at h1
              have h1 : PM w7 og O := by rw [← HV.out.2.1]; exact h1
              have h2 := h1.blk.lt
              have h3 := HT.out.2.2.2.2.1.size
              have hgo : og ≠ nb := by
                intro e
                have h4 := HS7.out.2.2.1.far nb (by have h5 : nb = a1.og := by rw [HA1.out.1.2.1]; exact e.symm
                                                    rw [h5]; exact .inr (.inl rfl))
                exact h4.2 (by rw [← HS6.out.2]; exact .inr ⟨HR6.out.1.ge.1, Blk.lt HR6.out.1.blk⟩)
              exact (((h1.below HT.out.2.2.2.2.1).same (hI.out.off.block og (by omega) hgo))).same (Below.heap_setCell _ _ _ _ hgo)
            have HPT := Lib.hid (Pag.part_some og i O _ hPMs hi9)
            have HI := Lib.hid hI.out
            have HII := Lib.hid hi
            obtain ⟨wv, mw, rfl, _, _⟩ := hI.out.ints.shape
            obtain ⟨lw, hlw⟩ : ∃ lw, (wrtL O (T.take j)).length = lw := ⟨_, rfl⟩
            rw [hlw] at HI ⊢
            have HLW := Lib.hid hlw
            have hi9' : ¬ (9 : Int) ≤ (i : Int) := by omega
            clear hI hi hgl hx hPMs hspw hlw
            go_wp2_with fail
            refine HPT.out.mono ?_
            rintro e w10 ⟨Ap, np2, cp, rfl, g1, g2, g3, g4, g5⟩
            by_cases hp : partB O i = []
            · have HN := Lib.hid (HI.out.skip HII.out hP9 hi9 hp g5)
              have hn0 : np2 = 0 := by rw [← g3, hp]; rfl
              clear g1 g2 g3 g4 g5 hp
              subst hn0
              go_wp2_with fail
              go_roundw
              case rel => exact ⟨j + 1, by omega, by go_num, HN⟩
              case measure => simp [intOf]; omega
            · have hn0 : 0 < np2 := by rw [← g3]; exact List.length_pos_iff.2 hp
              have hd5 : decide ((np2 : Int) > 0) = true := by simp; omega
              have hd6 : decide (0 < np2) = true := decide_eq_true hn0
              have hmid := HI.out.mid HII.out hP9 hi9 g5
              obtain ⟨v', w12, HRUN, r1, r2, r3⟩ := ints_app hmid i (by rw [HLW.out]; have h1 := List.length_filter_le (fun i => decide (0 < (partB O i).length)) (T.take j); have h2 : lw ≤ (T.take j).length := by rw [← HLW.out]; exact h1
                                                                        rw [List.length_take] at h2; omega)
              have HN := Lib.hid (HI.out.next HII.out hP9 hi9 hp g5 r1 r2 r3)
              have HRUN := Lib.hid HRUN
              clear g1 g2 g3 g4 g5 hp hn0 hmid r1 r2 r3
              go_wp2_with (at_builtin; refine wpList_app rfl _ _ 33 rfl _ _ _ _ rfl rfl HRUN.out ?_; clear HRUN)
              go_roundw
              case rel => exact ⟨j + 1, by omega, by go_num, HN⟩
              case measure => simp [intOf]; omega
          · obtain rfl : j = nT := by omega
            obtain ⟨wB, rfl⟩ : ∃ v, v = wr := ⟨_, rfl⟩
            have hd : decide ((j : Int) < (j : Int)) = false := by simp
            obtain ⟨W, hW⟩ : ∃ W, wrtL O T = W := ⟨_, rfl⟩
            have hC := hI.out
            obtain ⟨Q, hQ⟩ : ∃ Q, clr P T = Q := ⟨_, rfl⟩
            have hint := hC.ints
            have hr6 := hC.r6
            rw [List.take_of_length_le (by rw [HT.out.2.1]; exact Nat.le_refl _), hW] at hint
            rw [List.take_of_length_le (by rw [HT.out.2.1]; exact Nat.le_refl _), hQ] at hr6
            obtain ⟨Aw, mw, rfl, _, _⟩ := hint.shape
            obtain ⟨lw, hlw⟩ : ∃ lw, W.length = lw := ⟨_, rfl⟩
            rw [hlw] at hint hC ⊢
            have hlw9 : lw ≤ 9 := by
              rw [← hlw, ← hW]
              exact Nat.le_trans (List.length_filter_le _ _) (by rw [HT.out.2.1]; exact hT9)
            have ho7 : Off (fun k => k = nb) w7 wB := (Off.of_below HT.out.2.2.2.2.1 _ (fun _ _ _ => by omega)).trans hC.off
            have hYnb : Y6 nb := by rw [← HS6.out.2]; exact .inr ⟨HR6.out.1.ge.1, Blk.lt HR6.out.1.blk⟩
            have hw0w : w0.heap.size ≤ w.heap.size := H.out.1.bel.size
            obtain ⟨Yc, hYc⟩ : ∃ Y, (fun k => Y6 k ∨ (w7.heap.size ≤ k ∧ k < wB.heap.size)) = Y := ⟨_, rfl⟩
            have hSB := HS7.out.2.2.1.side ho7 (fun k e => by have e2 : k = nb := e; rw [e2]; exact ⟨hYnb, by have := HR6.out.1.ge.1; omega⟩) Yc (fun k e => by rw [← hYc] at e; exact e)
            have HSB := Lib.hid (And.intro hSB (And.intro hYc (And.intro hYnb ho7)))
            have HWR := Lib.hid (And.intro hW (And.intro hlw (And.intro hint (And.intro hr6 (And.intro hQ hC.own)))))
            obtain ⟨b0, b1, b2, _, _, b14, _, _⟩ := hSB.told
            rw [HA1.out.1.1] at b0 b1 b2 b14
            rw [HA1.out.1.2.1] at b14
            change wB.cell? ⟨sp, 2, none⟩ = some (.int .u32 (v.ep : Int)) at b2
            rw [HV.out.1] at b2
            have hXY : ∀ k, X k → Yc k := fun k e => by rw [← hYc, ← HS6.out.2]; exact .inl (.inl e)
            have hKX : Keep X w wB := ⟨by have := HR6.out.2.size; have := HS7.out.2.2.2.1.size; have := ho7.size; omega, fun k e => by
              have h1 := H.out.1.Xlt k e
              have h2 := HR6.out.2.block k h1
              have h3 := HS7.out.2.2.2.1.at_ k (by rw [← HS6.out.2]; exact .inl e)
              have h4 := ho7.block k (by have := HR6.out.2.size; have := HS7.out.2.2.2.1.size; omega) (fun e2 => by have e3 : k = nb := e2; have := HR6.out.1.ge.1; omega)
              exact h4.trans (h3.trans h2)⟩
            have HKX := Lib.hid (And.intro hXY hKX)
            have hwt : W = wrtL v.O (turnedL v.O v.L) := by rw [← hW, ← HT.out.1, HV.out.2.1]
            have HWT := Lib.hid hwt
            generalize hz : (j : Int) = z at hd ⊢
            clear hI hC hint hr6 hlw hYc ho7 hYnb hSB hz hXY hKX hwt hW hQ
            by_cases hmax : ep = 4294967295
            · have hd6 : ((ep : Int) == 4294967295) = true := by simp; omega
              have HMX := Lib.hid hmax
              clear hmax
              go_wp2_with fail
              go_ret
              exact ⟨D, Lc, a1, _, (HSB.out.1.less HKX.out.1).mono (by omega), HKX.out.2, by rw [HA1.out.1.1]; exact HV.out.2.2.1.symm, HA1.out.1.2.2.2.1, .inr (.inl ⟨rfl, HM200.out, .inl (by rw [HV.out.1]; exact HMX.out), rfl, rfl, rfl⟩)⟩
            · have hd6 : ((ep : Int) == 4294967295) = false := by simp; omega
              by_cases hfew : nf < lw
              · have hd7 : decide ((nf : Int) < (lw : Int)) = true := by simpa using hfew
                have hd8 : decide (nf < lw) = true := decide_eq_true hfew
                have HFW := Lib.hid hfew
                clear hmax hfew
                go_wp2_with fail
                go_ret
                exact ⟨D, Lc, a1, _, (HSB.out.1.less HKX.out.1).mono (by omega), HKX.out.2, by rw [HA1.out.1.1]; exact HV.out.2.2.1.symm, HA1.out.1.2.2.2.1, .inr (.inl ⟨rfl, HM200.out, .inr (by rw [HF.out.1, HF.out.2, ← HWT.out, HWR.out.2.1]; exact HFW.out), rfl, rfl, rfl⟩)⟩
              · have hd7 : decide ((nf : Int) < (lw : Int)) = false := by simp; omega
                have hd8 : decide (nf < lw) = false := decide_eq_false hfew
                have HGO := Lib.hid (And.intro hmax (show lw ≤ nf by omega))
                clear hmax hfew
                have hC20 : C2 M O w0 w wB wB Yc nn most t a1 { v with fr := true } D Lc W F nb np A c e1 Q 0 D Lc := ⟨HSB.out.1, CmI.zero _ _ _ H.out.2.2, ⟨Nat.le_refl _, fun _ _ => rfl⟩, by rw [List.take_zero]; exact HWR.out.2.2.2.1⟩
                have HC20 := Lib.hid hC20
                have hrY : ∀ j, (j = nb ∨ j = np ∨ ∃ p : Addr, A = some p ∧ p.block = j) → Yc j := fun j hj => by
                  rw [← HSB.out.2.1, ← HS6.out.2]
                  refine .inl (.inr ?_)
                  have h1 := HR6.out.1
                  rcases hj with rfl | rfl | ⟨p, ep, rfl⟩
                  · exact ⟨h1.ge.1, Blk.lt h1.blk⟩
                  · exact ⟨h1.ge.2.1, h1.pm.blk.lt⟩
                  · obtain ⟨q, rfl, h2, h3, _⟩ := h1.ad p ep
                    exact ⟨h2, h3⟩
                have HRY := Lib.hid hrY
                have hQ9 : Q.length = 9 := by rw [← HWR.out.2.2.2.2.1, clr_len, hP9]
                have hFn : F.Nodup := by rw [← HF.out.1]; exact freeTo_nodup _ _
                have hwnb : w0.heap.size ≤ nb := by have := H.out.1.bel.size; have := HR6.out.1.ge.1; omega
                have HQF := Lib.hid (And.intro hQ9 (And.intro hFn hwnb))
                clear hC20 hrY hQ9 hFn hwnb
                go_wp2_with fail
                go_loopw [11, 12, 13, 14, 15, 93] (fun _ _ _ _ _ iv wr => ∃ k : Nat, k ≤ lw ∧ iv = .int .i64 (k : Int) ∧ Hid (∃ D2 L2, C2 M O w0 w wB wr Yc nn most t a1 { v with fr := true } D Lc W F nb np A c e1 Q k D2 L2)) (fun _ _ _ _ _ iv _ => lw - (intOf iv).toNat)
                case atStart => exact ⟨0, Nat.zero_le _, rfl, Lib.hid ⟨D, Lc, HC20.out⟩⟩
                case round =>
                  clear HC20
                  obtain ⟨k, hk, rfl, hI⟩ := hrel
                  obtain ⟨D2, L2, hI⟩ := hI.out
                  by_cases hlt : k < lw
                  · have hdk : decide ((k : Int) < (lw : Int)) = true := by simpa using hlt
                    obtain ⟨i, hi⟩ : ∃ i, W[k]? = some i := ⟨_, List.getElem?_eq_getElem (by rw [HWR.out.2.1]; exact hlt)⟩
                    obtain ⟨s, hs⟩ : ∃ s, F[k]? = some s := ⟨_, List.getElem?_eq_getElem (by rw [HF.out.2]; have := HGO.out.2; omega)⟩
                    have hi9 : i < 9 := by
                      have h1 := List.mem_of_getElem? hi
                      rw [← HWR.out.1] at h1
                      have h2 := (wrtL_mem.1 h1).1
                      rw [← HT.out.1] at h2
                      exact (turnedL_mem.1 h2).1
                    obtain ⟨gw, cw, ef, hgl, hcw⟩ := IntsO.get HWR.out.2.2.1 k i hi
                    simp only [Value.slice.injEq] at ef
                    obtain ⟨rfl, he0, rfl⟩ := ef
                    clear he0
                    have hgw8 := HWR.out.2.2.2.2.2 gw rfl
                    have hw78 := HT.out.2.2.2.2.1.size
                    have hnb7 : nb < w7.heap.size := by
                      have h6 := HS7.out.2.2.2.1.size
                      have h7 := Blk.lt HR6.out.1.blk
                      omega
                    have hcw := (World.cell?_of_block (a := ⟨gw, k, none⟩) (hI.kp.at_ gw (.inl ⟨by rw [← HSB.out.2.1]; exact .inr ⟨by omega, hgl⟩, by omega⟩))).trans hcw
                    obtain ⟨gf, cf2, ef, hgfl, hcf⟩ := IntsO.get HS7.out.1 k s hs
                    simp only [Value.slice.injEq] at ef
                    obtain ⟨rfl, he0, rfl⟩ := ef
                    clear he0
                    have hgE := HS7.out.2.1 _ rfl
                    have hgz : a1.zn gf := .inr (.inr (.inr hgE))
                    have hgnb : gf ≠ nb := fun e => (HS7.out.2.2.1.far gf hgz).2 (e ▸ HSB.out.2.2.1)
                    have hcf := (World.cell?_of_block (a := ⟨gf, k, none⟩) ((hI.kp.at_ gf (.inr hgz)).trans (HSB.out.2.2.2.block gf hgfl hgnb))).trans hcf
                    have hsn : s < nn ∧ 2 ≤ s := by
                      have h1 := List.mem_of_getElem? hs
                      rw [← HF.out.1] at h1
                      exact freeL_lt h1
                    obtain ⟨_, c1, _, _, _, c14, _, _⟩ := hI.spc.told
                    rw [HA1.out.1.1] at c1 c14
                    rw [HA1.out.1.2.1] at c14
                    have hPM := hI.spc.m.own
                    rw [HA1.out.1.2.1] at hPM
                    have hPM : PM wr og O := by rw [← HV.out.2.1]; exact hPM
                    have HPT := Lib.hid (Pag.part_some og i O wr hPM hi9)
                    have hkI : (k : Int) < (nf : Int) := by have := HGO.out.2; omega
                    have hkn : k < nf := by have := HGO.out.2; omega
                    have hI9 : sp < wr.heap.size ∧ gf < wr.heap.size := ⟨by have h1 := hI.spc.m.lt _ (.inl rfl); rw [HA1.out.1.1] at h1; exact h1, hI.spc.m.lt _ hgz⟩
                    have HI := Lib.hid hI
                    have HIS := Lib.hid (And.intro hi (And.intro hs (And.intro hsn (And.intro hgz hgnb))))
                    clear hI hi hs hgl hgw8 hw78 hnb7 hgfl hgE hgz hgnb hsn hPM
                    go_wp2_with fail
                    refine HPT.out.mono ?_
                    rintro e w10 ⟨Ap, n2, cp, rfl, g1, g2, g3, g4, g5⟩
                    have hT10 : Blo.Tab w10 := tab_at H.out.2.1 (HI.out.spc.bel.trans (g5.mono HI.out.spc.bel.size))
                    have hpl := Pag.Pgs.partB_len (show Pag.Pgs.Ok O by have h1 := H.out.1.m.own.ok; rw [HV.out.2.1] at h1; exact h1) hi9
                    have HSL := Lib.hid (Blo.seal_yes 2 Ap n2 cp (partB O i) w10 (by omega) (by omega) g3 (by omega) g4 hT10)
                    have HG := Lib.hid (And.intro g5 g3)
                    have hpb : (partB O i).length ≤ 248 := by omega
                    clear g1 g2 g3 g4 g5 hT10 hpl
                    go_wp2_with fail
                    refine HSL.out.mono ?_
                    rintro e w11 ⟨gs, rfl, k1, k2, k3⟩
                    have hb11 : Below wr.heap.size wr w11 := HG.out.1.trans (k3.mono HG.out.1.size)
                    have hgsl : gs < w11.heap.size := Blk.lt k2
                    have hS11 := HI.out.spc.more hb11 (fun q => Yc q ∨ q = gs) (fun q e => e.imp id fun e => by rw [e]; exact ⟨by have := HG.out.1.size; omega, hgsl⟩)
                    have hby : Bytes w11.drew (some ⟨gs, 0, none⟩) (Blo.blockOf 2 (partB O i)) := (Bytes.row (t := 5) k2).below (Below.refl _ w11).drew
                    have HW := Lib.hid (hS11.drew.cwrite HI.out.cm.calm (by omega) HIS.out.2.2.1.1 HIS.out.2.2.1.2 gs _ (Blo.blockOf_length 2 _ hpb) hby (.inl (.inr rfl)))
                    have c1d : w11.drew.cell? ⟨sp, 1, none⟩ = some (.pointer (some ⟨a1.cg, 0, none⟩)) := (World.cell?_of_block (a := ⟨sp, 1, none⟩) (hb11.block sp (by have := hI9; omega))).trans c1
                    have cfd : w11.drew.cell? ⟨gf, k, none⟩ = some (.int .i64 (s : Int)) := (World.cell?_of_block (a := ⟨gf, k, none⟩) (hb11.block gf hI9.2)).trans hcf
                    have HF22 : Hid (∀ W, Keep (fun q => (Yc q ∨ q = gs) ∨ a1.zn q) w11.drew W → W.cell? ⟨sp, 1, none⟩ = some (.pointer (some ⟨a1.cg, 0, none⟩)) ∧ W.cell? ⟨gf, k, none⟩ = some (.int .i64 (s : Int))) := Lib.hid (fun W hk =>
                      ⟨(World.cell?_of_block (a := ⟨sp, 1, none⟩) (hk.at_ _ (.inr (.inl HA1.out.1.1.symm)))).trans c1d, (World.cell?_of_block (a := ⟨gf, k, none⟩) (hk.at_ _ (.inr HIS.out.2.2.2.1))).trans cfd⟩)
                    have HB11 := Lib.hid hb11
                    clear k1 k2 k3 hb11 hgsl hS11 hby
                    go_upto_region 22 with fail
                    go_region_held3 (fun W => W.cell? ⟨sp, 1, none⟩ = some (.pointer (some ⟨a1.cg, 0, none⟩)) ∧ W.cell? ⟨gf, k, none⟩ = some (.int .i64 (s : Int)))
                      (first | exact ⟨c1d, cfd⟩ | exact HF22.out _ r3)
                      (first | (go_at_call 96; refine HW.out.mono ?_; rintro e w12 ⟨rfl, D3, L3, r1, r2, r3⟩))
                    all_goals
                      have r4 : Keep (fun q => (Yc q ∨ q = gs) ∨ a1.zn q) w11 w12 := ⟨r3.size, fun q e => r3.at_ q e⟩
                      have hcf12 := (HF22.out _ r3).2
                      have h6 := HI.out.r6at HB11.out r4 HRY.out
                      obtain ⟨x, hx⟩ : ∃ x, (putP Q (W.take k) F)[i]? = some x := ⟨_, List.getElem?_eq_getElem (by rw [putP_len, HQF.out.1]; exact hi9)⟩
                      have cnb := h6.part hx
                      have fnb := Blk.frozen h6.blk (1 + i)
                      have HN := Lib.hid (HI.out.next HIS.out.1 HIS.out.2.1 HQF.out.2.1 HQF.out.1 hi9 HB11.out r1 r2 r4 ⟨HRY.out _ (.inl rfl), HQF.out.2.2⟩ HRY.out)
                      have hiI : (i : Int) < 9 := by omega
                      have hi0 : (0 : Int) ≤ (i : Int) := by omega
                      clear r1 r2 r3 r4 h6 hx c1d cfd hcf c1 c14 hcw
                      go_wp2_with fail
                      go_roundw
                      case rel => exact ⟨k + 1, by omega, by go_num, Lib.hid ⟨_, _, HN.out⟩⟩
                      case measure => simp [intOf]; omega
                  · obtain rfl : k = lw := by omega
                    have hdk : decide ((k : Int) < (k : Int)) = false := by simp
                    obtain ⟨wD, rfl⟩ : ∃ v, v = wr := ⟨_, rfl⟩
                    have hcm := hI.cm
                    have hcalm := hcm.calm
                    obtain ⟨_, c1, _, _, _, _, _, _⟩ := hI.spc.told
                    rw [HA1.out.1.1] at c1
                    have HFL := Lib.hid (hI.spc.cs.flush (by omega))
                    have HI := Lib.hid hI
                    generalize hz : (k : Int) = z at hdk ⊢
                    clear hI hk hlt
                    go_wp2_with fail
                    refine HFL.out.mono ?_
                    rintro e w13 ⟨DF, LF, rfl, l1, l2, l3, l4, l5, l6⟩
                    have hS13 := (HI.out.spc.cached (q := fun _ => False) (l5.less (fun q e => e.elim id fun e => e.elim)) l6 (fun q e => e.elim)).1.less (Y := Yc) (fun _ e => .inl e)
                    have hr13 := HI.out.r6.kept l6.size (fun q _ _ he => l6.at_ q (.inl (HRY.out q he)))
                    have hcalmF : Calm LF := fun x hx => by
                      have hx2 : key x ∈ L2.map key := by rw [← l1]; exact List.mem_map_of_mem hx
                      obtain ⟨y, hy, e⟩ := List.mem_map.1 hx2
                      have e1 : y.s = x.s := congrArg Prod.fst e
                      have e2 : y.pins = x.pins := congrArg Prod.snd e
                      have := hcalm y hy
                      omega
                    have hWk : W.take k = W := List.take_of_length_le (by rw [HWR.out.2.1]; exact Nat.le_refl _)
                    rw [hWk] at hr13
                    obtain ⟨Qf, hQf⟩ : ∃ Qf, putP Q W F = Qf := ⟨_, rfl⟩
                    rw [hQf] at hr13
                    have hQf9 : Qf.length = 9 := by rw [← hQf, putP_len]; exact HQF.out.1
                    have hnew : Qf = newP nn v.P v.L v.O := by
                      unfold newP
                      rw [← hQf, ← HWR.out.2.2.2.2.1, HF.out.1, ← HWT.out, HT.out.1, HV.out.2.2.2.2.1, HP.out]
                    have hQfl : ∀ x ∈ Qf, x < 65536 := fun x hx => by
                      rw [← hQf] at hx
                      rcases putP_mem _ _ _ _ hx with hx | hx
                      · rw [← HWR.out.2.2.2.2.1] at hx
                        rcases clr_mem _ _ _ hx with hx | rfl
                        · rw [← HP.out, ← HV.out.2.2.2.2.1] at hx
                          exact H.out.1.m.plt x hx
                        · decide
                      · rw [← HF.out.1] at hx
                        have h1 := (freeL_lt hx).1
                        have h2 := H.out.1.cs.st.top
                        omega
                    have he1 : e1 = v.ep + 1 := by
                      have h1 := H.out.1.m.ep
                      have h2 := HV.out.2.2.2.2.2
                      have h3 := HGO.out.1
                      have h4 := HV.out.1
                      omega
                    have he1l : e1 < 4294967296 := by rw [← HV.out.2.2.2.2.2]; exact Nat.mod_lt _ (by decide)
                    have hRT := hr13.rootAt hQf9
                    have hCR := CS_root l5 hcalmF (by omega) H.out.2.1 nb e1 c Qf A M hRT he1l hQfl HM200.out hr13.nil_ (fun p ep => by obtain ⟨q, e2, _⟩ := hr13.ad p ep; exact ⟨q, 0, e2⟩)
                    obtain ⟨c0, _, _, _, _, _, _, _⟩ := hS13.told
                    rw [HA1.out.1.1] at c0
                    have HCR := Lib.hid hCR
                    have HS13 := Lib.hid (And.intro hS13 (And.intro hr13 (And.intro hQf9 (And.intro hnew (And.intro hQfl (And.intro he1 he1l))))))
                    have HKF := Lib.hid l6
                    have HFD := Lib.hid (And.intro l1 (And.intro l2 (And.intro l3 (And.intro l5.st hcm))))
                    clear l1 l2 l3 l4 l5 l6 hS13 hr13 hcalmF hWk hQf hQf9 hnew hQfl he1 he1l hRT hCR HFL hcm hcalm
                    go_wp2_with fail
                    refine HCR.out.mono ?_
                    rintro e w14 ⟨rfl, m1, m2⟩
                    have hS14 := (HS13.out.1.cached (q := fun _ => False) (m1.less (fun q e => e.elim id fun e => e.elim)) m2 (fun q e => e.elim)).1.less (Y := Yc) (fun _ e => .inl e)
                    have hr14 := HS13.out.2.1.kept m2.size (fun q _ _ he => m2.at_ q (.inl (HRY.out q he)))
                    obtain ⟨q0, q1, q2, q3, q4, q5, q6, q7, q8, hQQ⟩ : ∃ q0 q1 q2 q3 q4 q5 q6 q7 q8, Qf = [q0, q1, q2, q3, q4, q5, q6, q7, q8] := by
                      match Qf, HS13.out.2.2.1 with
                      | [q0, q1, q2, q3, q4, q5, q6, q7, q8], _ => exact ⟨q0, q1, q2, q3, q4, q5, q6, q7, q8, rfl⟩
                    subst hQQ
                    have hnbB := hr14.blk
                    rw [rootRow_lit, HML.out] at hnbB
                    have n0 := Blk.cell hnbB 0
                    have n1 := Blk.cell hnbB 1
                    have n2 := Blk.cell hnbB 2
                    have n3 := Blk.cell hnbB 3
                    have n4 := Blk.cell hnbB 4
                    have n5 := Blk.cell hnbB 5
                    have n6 := Blk.cell hnbB 6
                    have n7 := Blk.cell hnbB 7
                    have n8 := Blk.cell hnbB 8
                    have n9 := Blk.cell hnbB 9
                    have n10 := Blk.cell hnbB 10
                    have n11 := Blk.cell hnbB 11
                    have hspB := hS14.m.head
                    rw [HA1.out.1.1] at hspB
                    change Blk w14 sp 128 (spRow a1.dg a1.cg v.ep a1.pg a1.og a1.sg v.P (.slice a1.A v.M.length a1.c)) at hspB
                    rw [HV.out.2.2.2.2.1] at hspB
                    have hspA := hspB.alloc (.cells #[.int .u32 0, .int .i32 0, .int .u32 0, .slice none 0 0] 126)
                    have HSPA := Lib.hid hspA
                    rw [spRow_lit] at hspA
                    have s2 := Blk.cell hspA 2
                    have s3 := Blk.cell hspA 3
                    have s4 := Blk.cell hspA 4
                    have s5 := Blk.cell hspA 5
                    have s6 := Blk.cell hspA 6
                    have s7 := Blk.cell hspA 7
                    have s8 := Blk.cell hspA 8
                    have s9 := Blk.cell hspA 9
                    have s10 := Blk.cell hspA 10
                    have s11 := Blk.cell hspA 11
                    have s12 := Blk.cell hspA 12
                    have s13 := Blk.cell hspA 13
                    have s15 := Blk.cell hspA 15
                    have fz2 := Blk.frozen hspA 2
                    have fz3 := Blk.frozen hspA 3
                    have fz4 := Blk.frozen hspA 4
                    have fz5 := Blk.frozen hspA 5
                    have fz6 := Blk.frozen hspA 6
                    have fz7 := Blk.frozen hspA 7
                    have fz8 := Blk.frozen hspA 8
                    have fz9 := Blk.frozen hspA 9
                    have fz10 := Blk.frozen hspA 10
                    have fz11 := Blk.frozen hspA 11
                    have fz12 := Blk.frozen hspA 12
                    have fz13 := Blk.frozen hspA 13
                    have fz15 := Blk.frozen hspA 15
                    simp only [List.getElem?_toArray, List.getElem?_cons_zero, List.getElem?_cons_succ] at n0 n1 n2 n3 n4 n5 n6 n7 n8 n9 n10 n11 s2 s3 s4 s5 s6 s7 s8 s9 s10 s11 s12 s13 s15
                    have HS14 := Lib.hid (And.intro hS14 (And.intro hr14 m2))
                    clear m1 m2 hS14 hr14 hnbB hspB hspA c0 HCR
                    go_wp2_with fail
                    go_ret
                    have hoff : Off (fun q => q = a1.sp) w14 (pubW (w14.alloc (.cells #[.int .u32 0, .int .i32 0, .int .u32 0, .slice none 0 0] 126)) sp e1 q0 q1 q2 q3 q4 q5 q6 q7 q8 np w14.heap.size (.slice A ml c)) := by
                      rw [HA1.out.1.1]
                      exact (Off.alloc _ _ _).trans (pubW_off _ _ _ _ _ _ _ _ _ _ _ _ _ _ _)
                    have hspl : sp < w14.heap.size := by have h1 := HS14.out.1.m.lt _ (.inl rfl); rw [HA1.out.1.1] at h1; exact h1
                    have hstt := (Blk.new w14 126 #[.int .u32 0, .int .i32 0, .int .u32 0, .slice none 0 0]).same ((pubW_off (w14.alloc (.cells #[.int .u32 0, .int .i32 0, .int .u32 0, .slice none 0 0] 126)) sp e1 q0 q1 q2 q3 q4 q5 q6 q7 q8 np w14.heap.size (.slice A ml c)).block w14.heap.size (by simp) (fun e => by have e2 : w14.heap.size = sp := e; omega))
                    have hblk := pubW_blk HSPA.out e1 q0 q1 q2 q3 q4 q5 q6 q7 q8 np w14.heap.size (.slice A ml c)
                    rw [← HML.out, ← HA1.out.1.1] at hblk hstt hoff
                    obtain ⟨z1, z2⟩ := HS14.out.1.publish HS14.out.2.1 HS13.out.2.2.1 HS13.out.2.2.2.2.1 HS13.out.2.2.2.2.2.2 HM200.out HV.out.2.1 (fun q e => ⟨HKX.out.1 q e, H.out.1.Xlt q e⟩) HRY.out H.out.1.bel.size hoff hblk hstt (Nat.le_refl _)
                    have hKw : Keep X w w14 := (HKX.out.2.trans ((HI.out.kp.less (fun q e => .inl ⟨HKX.out.1 q e, fun e2 => by
                      have h1 := H.out.1.Xlt q e
                      have h2 := HR6.out.1.ge.1
                      omega⟩)).trans ((HKF.out).less (fun q e => .inl (HKX.out.1 q e))))).trans (HS14.out.2.2.less (fun q e => .inl (HKX.out.1 q e)))
                    have hK := hKw.trans z2
                    rw [HML.out, HA1.out.1.1] at z1 hK
                    refine ⟨_, LF, _, _, z1.mono (by have := hlw9; omega), hK, by show sp = a.sp; exact HV.out.2.2.1.symm, HA1.out.1.2.2.2.1, .inr (.inr ⟨rfl, HM200.out, by rw [HV.out.1]; exact HGO.out.1, by rw [← HWT.out, HF.out.1, HWR.out.2.1, HF.out.2]; exact HGO.out.2, ?_, ?_⟩)⟩
                    · rw [← HS13.out.2.2.2.1, ← HS13.out.2.2.2.2.2.1, HV.out.2.1]
                    · refine ⟨D2, L2, DF, _, ?_, HFD.out.2.2.2.1, HFD.out.1, HFD.out.2.1, HFD.out.2.2.1, ?_⟩
                      · rw [← HWT.out, HF.out.1, HWR.out.2.1, HV.out.2.1]
                        exact HFD.out.2.2.2.2
                      · rw [← HS13.out.2.2.2.1, ← HS13.out.2.2.2.2.2.1]
end
end Go.Proofs.YtolpgpphjnkehaaGreatDoor
/- shadow: a space as it should be: opened, aborted, committed. -/
namespace Go.Proofs.YtolpgpphjnkehaaGreatDoor
set_option maxRecDepth 20000
open Go.RowKit Cac Dsk
open Pag (PM IntsO)
open Pag.Pgs (got setL clearL partB pagesL sectorsL turnedL partN Ok none_)
section
variable {nn most t : Nat} {v : Sv} {D D' : DS} {Lc Lc' : List Fr} {now last : Nat → Option (List UInt8)}
theorem Gd.reopen (h : Gd nn v D Lc now last) (hst : Sta nn most t D Lc) (fr : Bool) : Gd nn ⟨v.ep, v.P, v.M, v.L, v.L, fr⟩ D [] last last := by
  refine ⟨h.geo.back, h.pub, fun j hj => ?_, h.lastH.congr fun p hp => ?_, h.lastH, fun x hx => by cases hx⟩
  · rcases hj with hj | ⟨x, hx, _⟩
    · exact h.tch j (.inl hj)
    · cases hx
  · rw [what_no (fun x hx => by cases hx)]
    exact (still hst (fun ht => h.tch _ ht (.inr (.inr ⟨p, hp, rfl⟩)))).1
theorem Gd.abort (h : Gd nn v D Lc now last) (hst : Sta nn most t D Lc') (hs : ∀ x ∈ Lc', x ∈ Lc) (fr : Bool) : Gd nn { v with O := v.L, fr := fr } D Lc' last last := by
  have ht : ∀ j, Tch D Lc' j → ¬ PubS v.P v.L j := fun j hj => h.tch j (by
    rcases hj with hj | ⟨x, hx, e⟩
    · exact .inl hj
    · exact .inr ⟨x, hs x hx, e⟩)
  exact ⟨h.geo.back, h.pub, ht, h.lastH.congr fun p hp => (still hst (fun h1 => ht _ h1 (.inr (.inr ⟨p, hp, rfl⟩)))).2, h.lastH, fun x hx => h.calm x (hs x hx)⟩
/-- What the secs of a map come to, when nothing is in it. -/
theorem none_get (p : Nat) : none_.getD p 0 = 0 := by
  unfold none_
  rw [List.getD_eq_getElem?_getD, List.getElem?_replicate]
  split <;> rfl
theorem zero9 {i x : Nat} (h : (List.replicate 9 0)[i]? = some x) : x = 0 := List.eq_of_mem_replicate (List.mem_of_getElem? h)
theorem Geo.none (nn : Nat) : Geo nn (List.replicate 9 0) none_ none_ :=
  ⟨rfl, fun _ _ h => .inl (zero9 h), fun _ _ _ h _ h0 => absurd (zero9 h) h0, Pag.Pgs.none_ok, Pag.Pgs.none_ok, fun p h => absurd (none_get p) h, fun p h => absurd (none_get p) h, fun p _ h => absurd (none_get p) h, fun p _ h => absurd (none_get p) h, fun p _ h => absurd (none_get p) h⟩
/-- A new disk that is formatted. -/
theorem Gd.format (hn : 16 ≤ nn) (fr : Bool) : Gd nn ⟨1, List.replicate 9 0, [], none_, none_, fr⟩ (fmtD (newD nn)) [] (fun _ => none) (fun _ => none) := by
  have h0 := Hale.new nn
  have h1 := h0.write (s := 0) (by omega) zeros_length
  have h2 := h1.bar
  have hr := rootD_read h2 hn 1 (List.replicate 9 0) [] rfl (by decide)
  have h3 := h2.write (s := 1 % 2) (by omega) (rootBlk_len 1 (List.replicate 9 0) [] rfl (by decide))
  have hP : (fmtD (newD nn)).P = [] := by
    unfold fmtD rootD
    rw [h3.barD]
  have hz : (fmtD (newD nn)).S.getD 0 [] = zeros := by
    unfold fmtD
    rw [(hr 0).2, if_neg (by decide), h1.barR, h0.writeR (s := 0) (by omega) zeros_length, if_pos rfl]
  have hone : (fmtD (newD nn)).S.getD 1 [] = rootBlk 1 (List.replicate 9 0) [] := by
    unfold fmtD
    rw [(hr 1).2, if_pos rfl]
  have hpub : Pub (fun j => (fmtD (newD nn)).S.getD j []) nn 1 (List.replicate 9 0) [] none_ := ⟨Geo.none nn, ⟨by decide, by decide⟩, by decide, hone, .inl hz, fun i _ hx => ⟨fun _ => Pag.Pgs.partB_none i, fun h => absurd (zero9 hx) h⟩, fun p h => absurd (none_get p) h⟩
  refine ⟨Geo.none nn, hpub, fun j hj => ?_, fun p => ⟨fun _ => rfl, fun h => absurd (none_get p) h⟩, fun p => ⟨fun _ => rfl, fun h => absurd (none_get p) h⟩, fun x hx => by cases hx⟩
  · rcases hj with ⟨p, hp, _⟩ | ⟨x, hx, _⟩
    · rw [hP] at hp; cases hp
    · cases hx
theorem Jr.none (nn : Nat) : Jr nn none_ none_ := .inl fun p => ⟨none_get p, none_get p⟩
end
/-- A space that is as it should be. -/
structure Sp (w0 w : World) (X : Nat → Prop) (nn most t : Nat) (a : Ad) (v : Sv) (D : DS) (Lc : List Fr) (now last : Nat → Option (List UInt8)) : Prop where
  spc : Spc w0 w X nn most t a v D Lc
  gd : Gd nn v D Lc now last
  jr : Jr nn v.L v.O
section
variable {w0 w w' : World} {X Y : Nat → Prop} {nn most t : Nat} {a a' : Ad} {v v' : Sv} {D D' : DS} {Lc Lc' : List Fr} {now last : Nat → Option (List UInt8)}
theorem Sp.top (h : Sp w0 w X nn most t a v D Lc now last) : 16 ≤ nn ∧ nn ≤ 4096 := h.spc.cs.st.top.2
theorem Sp.below (h : Sp w0 w X nn most t a v D Lc now last) (hb : Below w.heap.size w w') : Sp w0 w' X nn most t a v D Lc now last := ⟨h.spc.below hb, h.gd, h.jr⟩
theorem Sp.less (h : Sp w0 w X nn most t a v D Lc now last) (hY : ∀ k, Y k → X k) : Sp w0 w Y nn most t a v D Lc now last := ⟨h.spc.less hY, h.gd, h.jr⟩
theorem Sp.mono (h : Sp w0 w X nn most t a v D Lc now last) {u : Nat} (hu : t ≤ u) : Sp w0 w X nn most u a v D Lc now last := ⟨h.spc.mono hu, h.gd, h.jr⟩
theorem Sp.in_ (h : Sp w0 w X nn most t a v D Lc now last) (p : Int) : got v.O p ≠ 0 → 2 ≤ got v.O p ∧ got v.O p < nn := fun h0 => by
  by_cases hp : 0 ≤ p ∧ p < 1024
  · obtain ⟨q, rfl⟩ : ∃ q : Nat, p = q := ⟨p.toNat, by omega⟩
    rw [got_nat h.gd.geo.okO] at h0 ⊢
    exact ⟨(h.gd.geo.oin q h0).1, (h.gd.geo.oin q h0).2.1⟩
  · exact absurd (by unfold got; rw [if_neg hp]) h0
/-- What Write answers of a space. -/
def WrSp (w0 w : World) (X : Nat → Prop) (nn most t : Nat) (a : Ad) (v : Sv) (now last : Nat → Option (List UInt8)) (p : Int) (bs : List UInt8) (e : Ending) (w' : World) : Prop :=
  ∃ D' Lc' a' v' now', Sp w0 w' X nn most (t + 1) a' v' D' Lc' now' last ∧ Keep X w w' ∧ a'.sp = a.sp ∧ a'.dg = a.dg ∧ v'.ep = v.ep ∧ v'.P = v.P ∧ v'.M = v.M ∧ v'.L = v.L ∧
    ((e = .returned (.int .i64 1) ∧ (¬ (0 ≤ p ∧ p < 1024) ∨ 248 < bs.length) ∧ v' = v ∧ now' = now) ∨
     ((0 ≤ p ∧ p < 1024) ∧ bs.length ≤ 248 ∧ trn v.O v.L p = true ∧ e = .returned (.int .i64 0) ∧ v' = v ∧ now' = upd now p.toNat (some bs)) ∨
     ((0 ≤ p ∧ p < 1024) ∧ bs.length ≤ 248 ∧ trn v.O v.L p = false ∧ (freeL nn v.P v.L v.O).length ≤ 18 ∧ e = .returned (.int .i64 6) ∧ v'.O = v.O ∧ now' = now) ∨
     ∃ s : Nat, (0 ≤ p ∧ p < 1024) ∧ bs.length ≤ 248 ∧ trn v.O v.L p = false ∧ 18 < (freeL nn v.P v.L v.O).length ∧ (freeL nn v.P v.L v.O)[0]? = some s ∧ e = .returned (.int .i64 0) ∧ v'.O = setL v.O p (s : Int) ∧ now' = upd now p.toNat (some bs))
theorem Sp.write (h : Sp w0 w X nn most t a v D Lc now last) (hT : Blo.Tab w0) (ht : t < 800000) (p : Int) (A : Option Addr) (len cap : Nat) (bs : List UInt8) (hlen : bs.length = len) (hby : Bytes w A bs) :
    Calls Tryz.prog 47 #[.pointer (some ⟨a.sp, 0, none⟩), .int .i64 p, .slice A len cap] w (WrSp w0 w X nn most t a v now last p bs) := by
  refine (h.spc.write hT h.gd.calm (by omega) p (h.in_ p) A len cap bs hlen hby).mono ?_
  rintro e w' ⟨D', Lc', a', v', k1, k2, k3, k4, k5, hc⟩
  rcases hc with ⟨rfl, q1, rfl, q2⟩ | ⟨q1, q2, q3, rfl, rfl, q4⟩ | ⟨q1, q2, q3, q4, rfl, rfl, q5⟩ | ⟨s, q1, q2, q3, q4, q5, rfl, rfl, q6⟩
  · exact ⟨D', Lc', a', v', now, ⟨k1, h.gd.like q2, h.jr⟩, k2, k3, k4, rfl, rfl, rfl, rfl, .inl ⟨rfl, q1, rfl, rfl⟩⟩
  · obtain ⟨q, rfl⟩ : ∃ q : Nat, p = q := ⟨p.toNat, by omega⟩
    obtain ⟨o1, o2⟩ := trn_true h.gd.geo.okO h.gd.geo.okL q3
    rw [got_nat h.gd.geo.okO] at q4
    exact ⟨D', Lc', a', v', _, ⟨k1, h.gd.over o1 o2 q2 q4, h.jr⟩, k2, k3, k4, rfl, rfl, rfl, rfl, .inr (.inl ⟨q1, q2, q3, rfl, rfl, by rw [Int.toNat_natCast]⟩)⟩
  · exact ⟨D', Lc', a', _, now, ⟨k1, (h.gd.like q5).fr true, h.jr⟩, k2, k3, k4, rfl, rfl, rfl, rfl, .inr (.inr (.inl ⟨q1, q2, q3, q4, rfl, rfl, rfl⟩))⟩
  · obtain ⟨q, rfl⟩ : ∃ q : Nat, p = q := ⟨p.toNat, by omega⟩
    have hs := List.mem_of_getElem? q5
    have htf := trn_false h.gd.geo.okO h.gd.geo.okL q3
    exact ⟨D', Lc', a', _, _, ⟨k1, h.gd.put h.top.2 (by omega) hs q2 q6 false, Jr.put h.gd.geo.okL h.gd.geo.okO h.top.2 (by omega) hs q4 htf⟩, k2, k3, k4, rfl, rfl, rfl, rfl, .inr (.inr (.inr ⟨s, q1, q2, q3, q4, q5, rfl, rfl, by rw [Int.toNat_natCast]⟩))⟩
/-- What Commit answers of a space. -/
theorem Sp.commit (h : Sp w0 w X nn most t a v D Lc now last) (hT : Blo.Tab w0) (ht : t < 700000) (A : Option Addr) (ml cm : Nat) (M : List UInt8) (hml : M.length = ml) (hby : Bytes w A M) (hn0 : A = none → ml = 0 ∧ cm = 0) (hn1 : ∀ p : Addr, A = some p → ∃ g o, p = ⟨g, o, none⟩) :
    Calls Tryz.prog 48 #[.pointer (some ⟨a.sp, 0, none⟩), .slice A ml cm] w fun e w' => ∃ D' Lc' a' v', Keep X w w' ∧ a'.sp = a.sp ∧ a'.dg = a.dg ∧
      ((e = .returned (.int .i64 1) ∧ 200 < M.length ∧ v' = v ∧ Sp w0 w' X nn most (t + 1040) a' v' D' Lc' now last) ∨
       (e = .returned (.int .i64 6) ∧ v.ep = 4294967295 ∧ v' = { v with fr := true } ∧ Sp w0 w' X nn most (t + 1040) a' v' D' Lc' now last) ∨
       (e = .returned (.int .i64 0) ∧ M.length ≤ 200 ∧ v.ep ≠ 4294967295 ∧ v' = ⟨v.ep + 1, newP nn v.P v.L v.O, M, v.O, v.O, false⟩ ∧ Sp w0 w' X nn most (t + 1040) a' v' D' Lc' now now)) := by
  refine (h.spc.commit hT h.gd.calm (by omega) A ml cm M hml hby hn0 hn1).mono ?_
  rintro e w' ⟨D', Lc', a', v', k1, k2, k3, k4, hc⟩
  refine ⟨D', Lc', a', v', k2, k3, k4, ?_⟩
  have hen := h.jr.enough h.gd.geo.okL h.gd.geo.okO h.gd.geo.pl
  rcases hc with ⟨rfl, q1, rfl, rfl, rfl⟩ | ⟨rfl, q1, q2, rfl, rfl, rfl⟩ | ⟨rfl, q1, q2, q3, rfl, D1, L1, D2, t2, q4, q5, q6, q7, q8, rfl⟩
  · exact .inl ⟨rfl, q1, rfl, k1, h.gd, h.jr⟩
  · refine .inr (.inl ⟨rfl, ?_, rfl, k1, h.gd.fr true, h.jr⟩)
    rcases q2 with q2 | q2
    · exact q2
    · omega
  · have hep := h.spc.m.ep
    exact .inr (.inr ⟨rfl, q1, q2, rfl, k1, h.gd.commit h.spc.cs.st h.top.1 q3 q1 (by omega) q4 q5 q6 q7 q8 false, h.jr.commit h.gd.geo.okL h.gd.geo.okO⟩)
theorem Sp.abort (h : Sp w0 w X nn most t a v D Lc now last) : Calls Tryz.prog 52 #[.pointer (some ⟨a.sp, 0, none⟩)] w fun e w' => e = .returned (.int .i64 0) ∧ ∃ Lc' a', Sp w0 w' X nn most t a' { v with O := v.L, fr := false } D Lc' last last ∧ Keep X w w' ∧ a'.sp = a.sp ∧ a'.dg = a.dg := by
  refine (h.spc.abort h.gd.calm).mono ?_
  rintro e w' ⟨rfl, a', Lc2, k1, k2, k3, k4, k5⟩
  exact ⟨rfl, Lc2, a', ⟨k1, h.gd.abort k1.cs.st k2 false, h.jr.abort h.gd.geo.okL h.gd.geo.okO⟩, k3, k4, k5⟩
theorem Sp.drop (h : Sp w0 w X nn most t a v D Lc now last) (p : Int) : Calls Tryz.prog 49 #[.pointer (some ⟨a.sp, 0, none⟩), .int .i64 p] w fun e w' =>
    e = .returned (.int .i64 (dropE v.O p)) ∧ ∃ a' fr', Sp w0 w' X nn most t a' { v with O := clearL v.O p, fr := fr' } D Lc (if dropE v.O p = 0 then upd now p.toNat none else now) last ∧ Keep X w w' ∧ a'.sp = a.sp ∧ a'.dg = a.dg := by
  refine (h.spc.drop p).mono ?_
  rintro e w' ⟨rfl, a', fr', k1, k2, k3, k4⟩
  refine ⟨rfl, a', fr', ⟨k1, ?_, ?_⟩, k2, k3, k4⟩
  · by_cases hp : 0 ≤ p ∧ p < 1024
    · obtain ⟨q, rfl⟩ : ∃ q : Nat, p = q := ⟨p.toNat, by omega⟩
      have h1 := h.gd.drop q fr'
      by_cases hc : Pag.Pgs.clearB v.O (q : Int) = true
      · rw [if_pos (by unfold dropE; rw [if_pos hp, if_pos hc]), Int.toNat_natCast]
        exact h1
      · have hc : Pag.Pgs.clearB v.O (q : Int) = false := by simpa using hc
        rw [if_neg (by unfold dropE; rw [if_pos hp, hc]; decide), clearL_no hc]
        exact h.gd.fr fr'
    · rw [if_neg (by unfold dropE; rw [if_neg hp]; decide), clearL_out hp]
      exact h.gd.fr fr'
  · by_cases hp : 0 ≤ p ∧ p < 1024
    · obtain ⟨q, rfl⟩ : ∃ q : Nat, p = q := ⟨p.toNat, by omega⟩
      exact h.jr.drop h.gd.geo.okL h.gd.geo.okO q
    · rw [clearL_out hp]
      exact h.jr
/-- What Read answers of a space. -/
theorem Sp.read (h : Sp w0 w X nn most t a v D Lc now last) (hT : Blo.Tab w0) (ht : t < 800000) (p : Int) :
    Calls Tryz.prog 41 #[.pointer (some ⟨a.sp, 0, none⟩), .int .i64 p] w fun e w' => ∃ D' Lc' Y, Sp w0 w' Y nn most (t + 1) a v D' Lc' now last ∧ Keep X w w' ∧ (∀ k, X k → Y k) ∧
      ((¬ (0 ≤ p ∧ p < 1024) ∧ e = .returned (.tuple #[.slice none 0 0, .int .i64 1])) ∨
       ((0 ≤ p ∧ p < 1024) ∧ now p.toNat = none ∧ e = .returned (.tuple #[.slice none 0 0, .int .i64 7])) ∨
       ∃ body g, (0 ≤ p ∧ p < 1024) ∧ now p.toNat = some body ∧ body.length ≤ 248 ∧ e = .returned (.tuple #[.slice (some ⟨g, 0, none⟩) body.length body.length, .int .i64 0]) ∧ Blk w' g 5 (row8 body) ∧ w.heap.size ≤ g ∧ Y g) := by
  refine (h.spc.read hT h.gd.calm (by omega) p (h.in_ p)).mono ?_
  rintro e w' ⟨D', Lc', Y, k1, k2, k3, k4, hc⟩
  refine ⟨D', Lc', Y, ⟨k1, h.gd.like k2, h.jr⟩, k3, k4, ?_⟩
  rcases hc with hc | ⟨q1, q2, rfl⟩ | ⟨q1, q2, q3, rfl⟩ | ⟨body, g, q1, q2, q3, rfl, q4, q5, q6⟩
  · exact .inl hc
  · obtain ⟨q, rfl⟩ : ∃ q : Nat, p = q := ⟨p.toNat, by omega⟩
    rw [got_nat h.gd.geo.okO] at q2
    exact .inr (.inl ⟨q1, (h.gd.nowH q).1 q2, rfl⟩)
  · obtain ⟨q, rfl⟩ : ∃ q : Nat, p = q := ⟨p.toNat, by omega⟩
    rw [got_nat h.gd.geo.okO] at q2 q3
    obtain ⟨b, b1, b2, b3⟩ := (h.gd.nowH q).2 q2
    exact absurd ⟨by decide, by decide, b1, b2⟩ (q3 b)
  · obtain ⟨q, rfl⟩ : ∃ q : Nat, p = q := ⟨p.toNat, by omega⟩
    rw [got_nat h.gd.geo.okO] at q2 q3
    obtain ⟨b, b1, b2, b3⟩ := (h.gd.nowH q).2 q2
    obtain ⟨_, e2⟩ := Blo.isBlk_one (show Blo.IsBlk (what D Lc (v.O.getD q 0)) 3 b from ⟨by decide, by decide, b1, b2⟩) q3
    subst e2
    exact .inr (.inr ⟨_, g, q1, b3, b1, rfl, q4, q5, q6⟩)
theorem Sp.evict (h : Sp w0 w X nn most t a v D Lc now last) (ht : t < 800000) (i : Int) (hi : i < 9223372036854775808) :
    Calls Tryz.prog 72 #[.pointer (some ⟨a.sp, 0, none⟩), .int .i64 i] w fun e w' => ∃ b D' Lc', e = .returned (.tuple #[.bool b, .int .i64 0]) ∧ Sp w0 w' X nn most (t + 1) a v D' Lc' now last ∧ Keep X w w' := by
  refine (h.spc.evict h.gd.calm (by omega) i hi).mono ?_
  rintro e w' ⟨b, D', Lc', rfl, k1, k2, k3⟩
  exact ⟨b, D', Lc', rfl, ⟨k1, h.gd.like k2, h.jr⟩, k3⟩
theorem Sp.room (h : Sp w0 w X nn most t a v D Lc now last) : Calls Tryz.prog 35 #[.pointer (some ⟨a.sp, 0, none⟩)] w fun e w' => e = .returned (.int .i64 (((freeL nn v.P v.L v.O).length - 18 : Nat) : Int)) ∧ Sp w0 w' X nn most t (a.grow w w') { v with fr := true } D Lc now last ∧ Keep X w w' := by
  refine h.spc.room.mono ?_
  rintro e w' ⟨rfl, k1, k2⟩
  exact ⟨rfl, ⟨k1, h.gd.fr true, h.jr⟩, k2⟩
/-- Over a new disk that is formatted. -/
theorem open_format {dg : Nat} (h : Run w0 w X dg (fmtD (newD nn))) (hn : 16 ≤ nn ∧ nn ≤ 4096) (hH : Hale nn t (fmtD (newD nn))) (hT : Blo.Tab w0) (hm : 2 ≤ most ∧ most ≤ 1024) :
    Calls Tryz.prog 20 #[.pointer (some ⟨dg, 0, none⟩), .int .i64 (most : Int)] w fun e w' => ∃ a, e = .returned (.tuple #[.pointer (some ⟨a.sp, 0, none⟩), .int .i64 0]) ∧ Sp w0 w' X nn most t a ⟨1, List.replicate 9 0, [], none_, none_, false⟩ (fmtD (newD nn)) [] (fun _ => none) (fun _ => none) ∧ a.dg = dg ∧ Below w.heap.size w w' := by
  have hg := Gd.format hn.1 false
  have hst : Sta nn most t (fmtD (newD nn)) [] := ⟨hH, (fun x hx => by cases hx), (fun x hx => by cases hx), List.Pairwise.nil, Nat.zero_le _, ⟨hm.2, hn⟩⟩
  refine (open_pub h hH hn hT (hg.read hst) most hm).mono ?_
  rintro e w' ⟨a, rfl, k⟩
  exact ⟨a, rfl, ⟨k.spc, hg, Jr.none nn⟩, k.dg, k.bel⟩
/-- Over a space's disk. -/
theorem Sp.again {m2 : Nat} (h : Sp w0 w X nn most t a v D Lc now last) (hT : Blo.Tab w0) (hm : 2 ≤ m2 ∧ m2 ≤ 1024) :
    Calls Tryz.prog 20 #[.pointer (some ⟨a.dg, 0, none⟩), .int .i64 (m2 : Int)] w fun e w' => ∃ a', e = .returned (.tuple #[.pointer (some ⟨a'.sp, 0, none⟩), .int .i64 0]) ∧ Sp w0 w' X nn m2 t a' ⟨v.ep, v.P, v.M, v.L, v.L, false⟩ D [] last last ∧ a'.dg = a.dg ∧ Below w.heap.size w w' := by
  refine (open_pub ((CS_run h.spc.cs).less fun _ e => .inl e) h.spc.cs.st.hale h.top hT (h.gd.read h.spc.cs.st) m2 hm).mono ?_
  rintro e w' ⟨a', rfl, k⟩
  exact ⟨a', rfl, ⟨k.spc, h.gd.reopen h.spc.cs.st false, h.jr.abort h.gd.geo.okL h.gd.geo.okO⟩, k.dg, k.bel⟩
end
end Go.Proofs.YtolpgpphjnkehaaGreatDoor
