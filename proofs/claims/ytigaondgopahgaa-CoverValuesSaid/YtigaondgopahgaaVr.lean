/- cover: a row's pattern that grows; all rows so far. -/
import Derived.Test.YtigaondgopahgaaVo
namespace Go.Proofs.Ytigaondgopahgaa
open Go.RowKit Ty
set_option linter.unusedVariables false
set_option linter.unusedSimpArgs false
/-- A tuple in its box, so far. -/
structure KV (w wI wr : World) (q : Nat) (ps : List Ty) (A : Option Addr) (n c : Nat) (es : List Te) : Prop where
  blk : Blk wr q 40 #[.int .u8 5, .string ⟨#[]⟩, .int .i64 0, .slice A n c]
  own : PtO (fun b => wI.heap.size ≤ b) wI.heap.size wr (.slice A n c) es
  len : es.length = n
  map : es.map Te.t = ps
  off : Off (fun k => k = q) wI wr
theorem kv_step {w wI wr w2 : World} {q : Nat} {ps : List Ty} {A : Option Addr} {n c : Nat} {es : List Te} {e : Te} {tl : Nat} (h : KV w wI wr q ps A n c es) (hb : Below wr.heap.size wr w2) (hw : w.heap.size ≤ q) (hq : q < wI.heap.size)
    (he : e.in_ (fun b => wr.heap.size ≤ b) w2) (htl : e.t.ks.length = tl) (hn : n < 100) {u3 : World} (h3 : w2.drew.alloc (.cells #[.int .u8 (e.t.k : Int), .string (str e.t.nm), .int .i64 e.t.n, .slice e.A tl e.c] 40) = u3) :
    ∃ A' c' w4, (Builtin.append_ #[22, 22] 22 #[.slice A n c, .slice (some ⟨w2.heap.size, 0, none⟩) 1 1]).run Try.prog u3 = .ok (.slice A' (n + 1) c') w4 ∧
      (w2.cell? ⟨q, 3, none⟩ = some (.slice A n c) ∧ u3.cell? ⟨q, 3, none⟩ = some (.slice A n c)) ∧ (w4.cell? ⟨q, 3, none⟩ = some (.slice A n c) ∧ w4.frozen? ⟨q, 3, none⟩ = false) ∧
      (∀ (p : Addr) (v : Value), (p.block < w.heap.size ∨ wr.heap.size ≤ p.block) → p.block < w2.heap.size → w2.cell? p = some v → u3.cell? p = some v ∧ w4.cell? p = some v ∧ (w4.setCell ⟨q, 3, none⟩ (.slice A' (n + 1) c')).cell? p = some v) ∧
      KV w wI (w4.setCell ⟨q, 3, none⟩ (.slice A' (n + 1) c')) q (ps ++ [e.t]) A' (n + 1) c' (es ++ [e]) := by
  have hI := h.off.size
  have hbd : Below w2.heap.size w2 u3 := by rw [← h3]; exact ((Below.refl _ w2).drew).alloc (Nat.le_refl _) _
  have hB3 : Blk u3 w2.heap.size 40 #[.int .u8 (e.t.k : Int), .string (str e.t.nm), .int .i64 e.t.n, .slice e.A tl e.c] := by rw [← h3]; exact Blk.new w2.drew _ _
  have h03 : Below wr.heap.size wr u3 := hb.trans (hbd.mono hb.size)
  have hO3 := h.own.below h03
  have hlt := fun g hg => h.own.own.lt g hg
  obtain ⟨v', w4, hr, hO4, hg⟩ := hO3.app (by have := h03.size; omega) [e] ⟨w2.heap.size, 0, none⟩ 1 1 rfl (fun j u hj => by
    rw [add_off, Nat.zero_add, hB3.cell, List.getElem?_toArray, ← htl]
    have e1 : flatE [e] = e.cells := by unfold flatE; simp
    rw [e1] at hj
    exact hj) (fun x hx => by
    rw [List.mem_singleton.1 hx]
    exact (he.bel hbd).mono fun k hk => ⟨by omega, fun e2 => by have := (hlt k e2).2; omega⟩) (by rw [h.len]; omega)
  obtain ⟨A', c', rfl, _⟩ := hO4.shape
  have hl4 : (es ++ [e]).length = n + 1 := by rw [List.length_append, h.len]; rfl
  rw [hl4] at hr hO4
  have ho : Off (fun k => (Value.slice A n c).ownBlock = some k) u3 w4 := Off.of_grown hg
  have hnq : ¬ (Value.slice A n c).ownBlock = some q := fun e2 => by have := (hlt q e2).1; omega
  have hB2 := h.blk.below hb h.blk.lt
  have hBu := hB2.below hbd hB2.lt
  have hBq := hBu.off ho hnq
  have hst := Off.setc w4 q 3 (.slice A' (n + 1) c')
  refine ⟨A', c', w4, hr, ⟨hB2.cell 3, hBu.cell 3⟩, ⟨hBq.cell 3, hBq.frozen 3⟩, fun p v hp hp2 hv => ?_, ?_⟩
  · have c3 : u3.cell? p = some v := (hbd.cell hp2).trans hv
    have hp3 : p.block < u3.heap.size := Nat.lt_of_lt_of_le hp2 hbd.size
    have c4 : w4.cell? p = some v := (World.cell?_of_block (ho.block _ hp3 (fun e2 => by have := hlt _ e2; omega))).trans c3
    exact ⟨c3, c4, (World.cell?_of_block (hst.block _ (Nat.lt_of_lt_of_le hp3 ho.size) (fun e2 => by omega))).trans c4⟩
  · refine ⟨?_, ⟨?_, fun x hx => ?_⟩, hl4, by rw [List.map_append, h.map]; rfl, ?_⟩
    · have := hBq.set_ 3 (.slice A' (n + 1) c')
      simpa using this
    · rw [hl4]
      rcases hO4.own.2 with ⟨e2, h0⟩ | ⟨g, cap, cur, e2, h5, h6, h7⟩
      · exact ⟨by have := hO4.own.1; rw [hl4] at this; exact this, .inl ⟨e2, by omega⟩⟩
      · rw [hl4] at e2 h7
        refine ⟨by have := hO4.own.1; rw [hl4] at this; exact this, .inr ⟨g, cap, cur, e2, h5, ?_, h7⟩⟩
        have hgl : g < w4.heap.size := (Array.getElem?_eq_some_iff.1 h6).1
        exact (hst.block g hgl (fun e3 => by omega)).trans h6
    · have h9 := hO4.kids x hx
      exact h9.off hst fun b hb => by have : wI.heap.size ≤ b := hb.1; omega
    · exact ((h.off.trans ((Off.of_new h03 _))).then ho (fun j hj e2 => by have := (hlt j e2).1; omega)).trans hst
theorem PtO.offg {F G : Nat → Prop} {B : Nat} {w w' : World} {v : Value} {es : List Te} (h : PtO F B w v es) (ho : Off G w w') (hG : ∀ b, F b → ¬ G b) (hB : ∀ b, B ≤ b → ¬ G b) : PtO F B w' v es := by
  refine ⟨⟨h.own.1, ?_⟩, fun e he => (h.kids e he).off ho fun b hb => hG b hb.1⟩
  rcases h.own.2 with h0 | ⟨g, cap, cur, e2, h5, h6, h7⟩
  · exact .inl h0
  · exact .inr ⟨g, cap, cur, e2, h5, (ho.block g (Array.getElem?_eq_some_iff.1 h6).1 (hB g h5)).trans h6, h7⟩
/-- The row of patterns that a row of bytes picks. -/
def rowF (σ : List So) (X : Nat → Nat → Nat) (r : Nat) : List Ty := (List.range σ.length).map fun k => ((pats (σ[k]?.getD .bool))[X r k % 5]?).getD any
def rowsF (σ : List So) (X : Nat → Nat → Nat) (i : Nat) : List (List Ty) := (List.range i).map (rowF σ X)
theorem rowsF_succ (σ : List So) (X : Nat → Nat → Nat) (i : Nat) : rowsF σ X (i + 1) = rowsF σ X i ++ [rowF σ X i] := by unfold rowsF; rw [List.range_succ, List.map_append]; rfl
theorem rowsF_len (σ : List So) (X : Nat → Nat → Nat) (i : Nat) : (rowsF σ X i).length = i := by unfold rowsF; simp
theorem rowF_len (σ : List So) (X : Nat → Nat → Nat) (r : Nat) : (rowF σ X r).length = σ.length := by unfold rowF; simp
theorem rowF_get {σ : List So} {X : Nat → Nat → Nat} {r k : Nat} {s : So} {p : Ty} (hs : σ[k]? = some s) (hp : (pats s)[X r k % 5]? = some p) : (rowF σ X r)[k]? = some p := by
  have hk := (List.getElem?_eq_some_iff.1 hs).1
  unfold rowF
  rw [List.getElem?_map, List.getElem?_range hk, Option.map_some, hs, Option.getD_some, hp]
  rfl
theorem rowF_take {σ : List So} {X : Nat → Nat → Nat} {r k : Nat} {s : So} {p : Ty} (hs : σ[k]? = some s) (hp : (pats s)[X r k % 5]? = some p) : (rowF σ X r).take (k + 1) = (rowF σ X r).take k ++ [p] := by
  rw [List.take_add_one, rowF_get hs hp]
  rfl
theorem rowIn_of : ∀ {σ : List So} {ps : List Ty}, ps.length = σ.length → (∀ (k : Nat) (s : So) (p : Ty), σ[k]? = some s → ps[k]? = some p → p ∈ pats s) → RowIn σ ps
  | [], [], _, _ => trivial
  | s :: σ, p :: ps, hl, h => ⟨h 0 s p rfl rfl, rowIn_of (by simpa using hl) fun k t q h1 h2 => h (k + 1) t q (by simpa using h1) (by simpa using h2)⟩
theorem rowF_in (σ : List So) (X : Nat → Nat → Nat) (r : Nat) : RowIn σ (rowF σ X r) := rowIn_of (rowF_len σ X r) fun k s p hs hp => by
  have hl : X r k % 5 < (pats s).length := by rw [pats_len]; exact Nat.mod_lt _ (by decide)
  have h1 := List.getElem?_eq_getElem hl
  rw [rowF_get hs h1] at hp
  cases hp
  exact List.getElem_mem hl
theorem rowsF_in {σ : List So} {X : Nat → Nat → Nat} {i : Nat} {r : List Ty} (h : r ∈ rowsF σ X i) : RowIn σ r := by
  unfold rowsF at h
  obtain ⟨j, _, rfl⟩ := List.mem_map.1 h
  exact rowF_in σ X j
/-- All rows, so far. -/
structure RwI (w wB wr : World) (σ : List So) (gt : Nat) (R : List (List Ty)) (A : Option Addr) (n c : Nat) (ps : List Te) : Prop where
  own : PtO (fun b => w.heap.size ≤ b ∧ b ≠ gt) wB.heap.size wr (.slice A n c) ps
  len : ps.length = n
  map : ps.map Te.t = R.map tup
  tk : Blk wr gt 4 (tkRow ((allF σ).map (tkn R)))
  off : Off (fun k => k = gt) wB wr
/-- One tuple more. -/
theorem rw_step {w wB wr wI wk : World} {σ : List So} {gt q : Nat} {R : List (List Ty)} {A A5 : Option Addr} {n c nn c5 : Nat} {ps es : List Te} {row : List Ty} (h : RwI w wB wr σ gt R A n c ps) (hw : w.heap.size ≤ gt) (hgt : gt < wB.heap.size) (hq : wr.heap.size = q) (hI : Below wr.heap.size wr wI) (hqI : q < wI.heap.size)
    (hk : KV w wI wk q row A5 nn c5 es) (hn : n < 1000) {w8 : World} (h8 : wk.alloc (.cells #[.int .u8 5, .string ⟨#[]⟩, .int .i64 0, .slice A5 nn c5] 40) = w8) :
    ∃ A' c' w7, (Builtin.append_ #[22, 22] 22 #[.slice A n c, .slice (some ⟨wk.heap.size, 0, none⟩) 1 1]).run Try.prog w8 = .ok (.slice A' (n + 1) c') w7 ∧ Below gt wB w7 ∧
      Blk w7 q 40 #[.int .u8 5, .string ⟨#[]⟩, .int .i64 0, .slice A5 nn c5] ∧ Blk w7 gt 4 (tkRow ((allF σ).map (tkn R))) ∧ Te.in_ (fun b => b ≠ gt) w7 ⟨tup row, A5, c5⟩ ∧
      PtO (fun b => w.heap.size ≤ b ∧ b ≠ gt) wB.heap.size w7 (.slice A' (n + 1) c') (ps ++ [⟨tup row, A5, c5⟩]) ∧ Off (fun k => k = gt) wB w7 := by
  have hs := h.off.size
  have hsI := hI.size
  have hrk : Below wr.heap.size wr wk := hI.trans (hk.off.below hsI fun b e => by omega)
  have hb8 : Below wk.heap.size wk w8 := by rw [← h8]; exact (Below.refl _ _).alloc (Nat.le_refl _) _
  have hB8 : Blk w8 wk.heap.size 40 #[.int .u8 5, .string ⟨#[]⟩, .int .i64 0, .slice A5 nn c5] := by rw [← h8]; exact Blk.new _ _ _
  have hr8 : Below wr.heap.size wr w8 := hrk.trans (hb8.mono hrk.size)
  have hO := h.own.below hr8
  have hlt := fun g hg => h.own.own.lt g hg
  obtain ⟨A5', c5', e5, hP5⟩ := hk.own.shape
  injection e5 with e5 e6 e7
  subst e5
  subst e7
  have hlen : row.length = nn := by rw [← hk.map, List.length_map, hk.len]
  rw [hk.map] at hP5
  have hin : Te.in_ (fun b => wI.heap.size ≤ b ∨ wI.heap.size ≤ b) wk ⟨tup row, A5, c5⟩ := ⟨hP5.at_, ok_tup _, by show row.length ≤ c5; rw [hlen, e6]; exact hP5.le, hP5.cap⟩
  obtain ⟨v', w7, hr, hO7, hg⟩ := hO.app (by have := hr8.size; omega) [⟨tup row, A5, c5⟩] ⟨wk.heap.size, 0, none⟩ 1 1 rfl (fun j u hj => by
    rw [add_off, Nat.zero_add, hB8.cell, List.getElem?_toArray, ← hlen]
    have e1 : flatE [(⟨tup row, A5, c5⟩ : Te)] = Te.cells ⟨tup row, A5, c5⟩ := by unfold flatE; simp
    rw [e1] at hj
    exact hj) (fun x hx => by
    rw [List.mem_singleton.1 hx]
    refine (hin.bel hb8).mono fun k hk => ⟨⟨?_, ?_⟩, fun e2 => ?_⟩
    · have : wI.heap.size ≤ k ∨ wI.heap.size ≤ k := hk
      omega
    · have : wI.heap.size ≤ k ∨ wI.heap.size ≤ k := hk
      omega
    · have := (hlt k e2).2
      have : wI.heap.size ≤ k ∨ wI.heap.size ≤ k := hk
      omega) (by rw [h.len]; omega)
  obtain ⟨A', c', rfl, _⟩ := hO7.shape
  have hl7 : (ps ++ [(⟨tup row, A5, c5⟩ : Te)]).length = n + 1 := by rw [List.length_append, h.len]; rfl
  rw [hl7] at hr hO7
  have ho : Off (fun k => (Value.slice A n c).ownBlock = some k) w8 w7 := Off.of_grown hg
  have n1 : ¬ (Value.slice A n c).ownBlock = some q := fun e2 => by have := (hlt q e2).2; omega
  have n2 : ¬ (Value.slice A n c).ownBlock = some gt := fun e2 => by have := (hlt gt e2).1; omega
  have hB7 : Off (fun k => k = gt) wB w7 := (h.off.trans (Off.of_new hr8 _)).then ho (fun j hj e2 => by have := (hlt j e2).1; omega)
  refine ⟨A', c', w7, hr, hB7.below (by omega) (fun k e => by omega), ?_, ?_, ?_, hO7, hB7⟩
  · exact (hk.blk.below hb8 hk.blk.lt).off ho n1
  · exact (h.tk.below hr8 h.tk.lt).off ho n2
  · refine ((hin.bel hb8).off ho fun b hb e2 => ?_).mono fun b hb => ?_
    · have := (hlt b e2).2
      have : wI.heap.size ≤ b ∨ wI.heap.size ≤ b := hb
      omega
    · have : wI.heap.size ≤ b ∨ wI.heap.size ≤ b := hb
      omega
theorem infoB : (Try.prog.info? 4).map (fun i => (i.zero, i.size, i.bytes)) = some (some (.bool false), 1, 1) := by kernel_rfl
theorem make_b (w : World) (n : Nat) (hn : n ≤ 100000) : (Instr.makeSlice 38 (.int .i64 (n : Int)) (.int .i64 (n : Int))).run Try.prog w = .ok (.slice (some ⟨w.heap.size, 0, none⟩) n n) (w.alloc (.cells (tkRow (List.replicate n false)) 4)) := by
  obtain ⟨i0, hi, hz0, hz1, hz2⟩ := info_parts infoB
  have h := run_make (P := Try.prog) w 38 4 i0 (.bool false) Try.underlying38 hi hz0 .i64 .i64 (n : Int) (n : Int) (by omega) (by omega) (by rw [hz2]; omega) (by omega)
  have e : madeCells #[.bool false] n = tkRow (List.replicate n false) := by
    apply Array.ext
    · simp [madeCells, tkRow]
    · intro i h1 h2
      simp [madeCells, tkRow, Nat.mod_one]
  have e2 : ((n : Int)).toNat = n := by omega
  rw [e2] at h
  simpa [hz1, Value.cells, e] using h
end Go.Proofs.Ytigaondgopahgaa
