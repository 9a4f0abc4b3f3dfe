/- The law, walked. -/
import Derived.Test.YtolpgpphjnkehaaGreatDoorMI
/- ShadowRoom. -/
namespace Go.Proofs.YtolpgpphjnkehaaGreatDoor
set_option maxRecDepth 20000
open Go.RowKit Cac Dsk
open Pag (PM IntsO)
open Pag.Pgs (got setL clearL partB pagesL sectorsL turnedL partN Ok none_)
/-- A row of truths. -/
def rowb (fs : List Bool) : Array Value := (fs.map Value.bool).toArray
theorem rowb_get {fs : List Bool} {j : Nat} {v : Bool} (h : fs[j]? = some v) : (rowb fs)[j]? = some (.bool v) := by
  unfold rowb; simp [h]
theorem rowb_set (fs : List Bool) (j : Nat) (v : Bool) : (rowb fs).setIfInBounds j (.bool v) = rowb (fs.set j v) := by
  unfold rowb
  simp [List.map_set]
theorem made_rowb (n : Nat) : madeCells #[.bool false] n = rowb (List.replicate n false) := by
  apply Array.ext
  · simp [madeCells, rowb]
  · intro i h1 h2
    simp [madeCells, rowb, Nat.mod_one]
theorem info_bool : (Tryz.prog.info? 4).map (fun i => (i.zero, i.size, i.bytes)) = some (some (.bool false), 1, 1) := by kernel_rfl
def seen0 : List Bool := List.replicate 1024 false
theorem run_seen (w : World) : (Instr.makeSlice 78 (.int .i64 1024) (.int .i64 1024)).run Tryz.prog w = .ok (.slice (some ⟨w.heap.size, 0, none⟩) 1024 1024) (w.alloc (.cells (rowb seen0) 4)) := by
  obtain ⟨i0, hi, hz0, hz1, hz2⟩ := info_parts info_bool
  have h := run_make (P := Tryz.prog) w 78 4 i0 (.bool false) Tryz.underlying78 hi hz0 .i64 .i64 1024 1024 (by omega) (by omega) (by rw [hz2]; omega) (by omega)
  unfold seen0
  rw [← made_rowb]
  simpa [hz1, Value.cells] using h
/-- A row of one byte. -/
theorem rowN (w : World) (n : Nat) (hn : n < 256) : Bytes (w.alloc (.cells #[.int .u8 (n : Int)] 5)) (some ⟨w.heap.size, 0, none⟩) [UInt8.ofNat n] := by
  have e : row8 [UInt8.ofNat n] = #[.int .u8 (n : Int)] := by
    unfold row8
    simp [bv, UInt8.toNat_ofNat', Nat.mod_eq_of_lt hn]
  have h : Blk (w.alloc (.cells #[.int .u8 (n : Int)] 5)) w.heap.size 5 (row8 [UInt8.ofNat n]) := by rw [e]; exact Blk.new w _ _
  exact Bytes.row (t := 5) h
theorem trn_nat {O L : List Nat} (hO : Ok O) (hL : Ok L) (p : Nat) : trn O L (p : Int) = (decide (O.getD p 0 ≠ 0) && decide (L.getD p 0 ≠ O.getD p 0)) := by
  unfold trn
  rw [got_nat hO, got_nat hL]
theorem trn_same (O : List Nat) (p : Int) : trn O O p = false := by
  unfold trn
  simp
theorem avail_le (nn : Nat) (L O : List Nat) : (avail nn L O).length ≤ nn := by
  unfold avail
  exact Nat.le_trans (List.length_filter_le _ _) (Nat.le_of_eq List.length_range)
theorem trn_none (p : Int) : trn none_ none_ p = false := trn_same _ p
theorem trn_put {O L : List Nat} (hO : Ok O) (hL : Ok L) {p s : Nat} (hp : p < 1024) (hs : 1 ≤ s ∧ s ≤ 65535) (hn : ∀ q, L.getD q 0 ≠ s) (hO' : Ok (setL O (p : Int) (s : Int))) (q : Nat) : trn (setL O (p : Int) (s : Int)) L (q : Int) = if q = p then true else trn O L (q : Int) := by
  rw [trn_nat hO' hL, trn_nat hO hL, setL_get hO hp hs]
  by_cases e : q = p
  · rw [if_pos e, if_pos e]
    have h1 : s ≠ 0 := by omega
    rw [decide_eq_true h1, decide_eq_true (hn q)]
    rfl
  · rw [if_neg e, if_neg e]
/-- A space, its world, and a row of truths. -/
structure Rm (w wr : World) (n wp sp q t ep : Nat) (Z : Array Value) (S : List Bool) (a : Ad) (v : Sv) (D : DS) (Lc : List Fr) (now last : Nat → Option (List UInt8)) : Prop where
  sp_ : Sp w wr (fun k => k = wp ∨ k = q) n 9 t a v D Lc now last
  asp : a.sp = sp
  blk : Blk wr wp 75 Z
  row : Blk wr q 4 (rowb S)
  ne : wp ≠ q ∧ w.heap.size ≤ q
  sl : S.length = 1024
  ep_ : v.ep ≤ ep
/-- What the row tells. -/
def Told (S : List Bool) (v : Sv) : Prop := ∀ p : Nat, p < 1024 → S[p]? = some (trn v.O v.L (p : Int))
section
variable {w wr w' : World} {n wp sp q t u ep ep' : Nat} {Z : Array Value} {S : List Bool} {a a' : Ad} {v v' : Sv} {D D' : DS} {Lc Lc' : List Fr} {now last now' last' : Nat → Option (List UInt8)}
theorem Rm.next (h : Rm w wr n wp sp q t ep Z S a v D Lc now last) (h1 : Sp w w' (fun k => k = wp ∨ k = q) n 9 u a' v' D' Lc' now' last') (h2 : a'.sp = a.sp) (hk : Keep (fun k => k = wp ∨ k = q) wr w') (he : v'.ep ≤ ep') : Rm w w' n wp sp q u ep' Z S a' v' D' Lc' now' last' :=
  ⟨h1, h2.trans h.asp, h.blk.same (hk.at_ wp (.inl rfl)), h.row.same (hk.at_ q (.inr rfl)), h.ne, h.sl, he⟩
theorem Rm.below (h : Rm w wr n wp sp q t ep Z S a v D Lc now last) (hb : Below wr.heap.size wr w') : Rm w w' n wp sp q t ep Z S a v D Lc now last := ⟨h.sp_.below hb, h.asp, h.blk.below hb h.blk.lt, h.row.below hb h.row.lt, h.ne, h.sl, h.ep_⟩
theorem Rm.cell (h : Rm w wr n wp sp q t ep Z S a v D Lc now last) (hZ : Z[1]? = some (.pointer (some ⟨sp, 0, none⟩))) : wr.cell? ⟨wp, 1, none⟩ = some (.pointer (some ⟨sp, 0, none⟩)) := (h.blk.cell 1).trans hZ
theorem Rm.mono (h : Rm w wr n wp sp q t ep Z S a v D Lc now last) (hu : t ≤ u) (he : ep ≤ ep') : Rm w wr n wp sp q u ep' Z S a v D Lc now last := ⟨h.sp_.mono hu, h.asp, h.blk, h.row, h.ne, h.sl, Nat.le_trans h.ep_ he⟩
/-- A truth is set. -/
theorem Rm.put (h : Rm w wr n wp sp q t ep Z S a v D Lc now last) (p : Nat) : Rm w (wr.setCell ⟨q, p, none⟩ (.bool true)) n wp sp q t ep Z (S.set p true) a v D Lc now last := by
  have ho := Off.setc wr q p (.bool true)
  refine ⟨⟨h.sp_.spc.side ho (fun k e => ⟨.inr e, by have : k = q := e; rw [this]; exact h.ne.2⟩) _ (fun k e => .inl e), h.sp_.gd, h.sp_.jr⟩, h.asp, h.blk.off ho (fun e => h.ne.1 e), ?_, h.ne, by rw [List.length_set]; exact h.sl, h.ep_⟩
  rw [← rowb_set]
  exact h.row.set_ p _
/-- A new row. -/
theorem Rm.fresh (h : Rm w wr n wp sp q t ep Z S a v D Lc now last) : Rm w (wr.alloc (.cells (rowb seen0) 4)) n wp sp wr.heap.size t ep Z seen0 a v D Lc now last := by
  have hal : Below wr.heap.size wr (wr.alloc (.cells (rowb seen0) 4)) := (Below.refl _ _).alloc (Nat.le_refl _) _
  have hsz : (wr.alloc (.cells (rowb seen0) 4)).heap.size = wr.heap.size + 1 := World.size_alloc _ _
  refine ⟨h.sp_.more hal _ (fun k e => e.elim (fun e => .inl (.inl e)) fun e => .inr (by omega)), h.asp, h.blk.below hal h.blk.lt, Blk.new _ _ _, ⟨by have := h.blk.lt; omega, h.sp_.spc.bel.size⟩, by unfold seen0; rw [List.length_replicate], h.ep_⟩
theorem told_new (h : ∀ p, trn v.O v.L p = false) : Told seen0 v := fun p hp => by
  unfold seen0
  rw [List.getElem?_replicate, if_pos hp, h]
/-- A write of a byte. -/
theorem Rm.write (h : Rm w wr n wp sp q t ep Z S a v D Lc now last) (hs : Told S v) (hT : Blo.Tab w) (ht : t < 700000) (p i : Nat) (hp : p < 1024) (hi : i < 256) :
    Calls Tryz.prog 47 #[.pointer (some ⟨sp, 0, none⟩), .int .i64 (p : Int), .slice (some ⟨wr.heap.size, 0, none⟩) 1 1] (wr.alloc (.cells #[.int .u8 (i : Int)] 5)) fun e w' => ∃ a' v' D' Lc' now', Rm w w' n wp sp q (t + 1) ep Z S a' v' D' Lc' now' last ∧
      ((e = .returned (.int .i64 6) ∧ S[p]? = some false ∧ (freeL n v.P v.L v.O).length - 18 = 0 ∧ Told S v') ∨
       (e = .returned (.int .i64 0) ∧ S[p]? = some true ∧ Told (S.set p true) v') ∨
       (e = .returned (.int .i64 0) ∧ S[p]? = some false ∧ Told (S.set p true) v' ∧ ((freeL n v'.P v'.L v'.O).length - 18) + 1 = (freeL n v.P v.L v.O).length - 18)) := by
  have hal : Below wr.heap.size wr (wr.alloc (.cells #[.int .u8 (i : Int)] 5)) := (Below.refl _ _).alloc (Nat.le_refl _) _
  have hh := h.below hal
  have hw := hh.sp_.write hT (by omega) (p : Int) (some ⟨wr.heap.size, 0, none⟩) 1 1 [UInt8.ofNat i] rfl (rowN wr i hi)
  rw [h.asp] at hw
  refine hw.mono ?_
  rintro e w' ⟨D', Lc', a', v', now', q1, q2, q3, q4, q5, q6, q7, q8, hc⟩
  refine ⟨a', v', D', Lc', now', hh.next q1 q3 q2 (by rw [q5]; exact h.ep_), ?_⟩
  have hSp := hs p hp
  rcases hc with ⟨_, q, _⟩ | ⟨_, _, qt, rfl, rfl, _⟩ | ⟨_, _, qt, qf, rfl, qO, _⟩ | ⟨s, _, _, qt, qf, qs, rfl, qO, _⟩
  · rcases q with q | q
    · exact absurd (show (0 : Int) ≤ (p : Int) ∧ (p : Int) < 1024 by omega) q
    · have : ([UInt8.ofNat i] : List UInt8).length = 1 := rfl
      omega
  · rw [qt] at hSp
    refine .inr (.inl ⟨rfl, hSp, fun j hj => ?_⟩)
    by_cases e : j = p
    · subst e
      rw [List.getElem?_set_self (by have := h.sl; omega), qt]
    · rw [List.getElem?_set_ne (fun e' => e e'.symm)]
      exact hs j hj
  · rw [qt] at hSp
    refine .inl ⟨rfl, hSp, by omega, fun j hj => ?_⟩
    rw [qO, q8]
    exact hs j hj
  · rw [qt] at hSp
    have hL := h.sp_.gd.geo.okL
    have hO := h.sp_.gd.geo.okO
    have hsm := List.mem_of_getElem? qs
    have hs2 := (free_mem hL hO).1 hsm
    have hn := h.sp_.top.2
    have hfl := free_put_len hL hO hn (p := p) hp hsm (trn_false hO hL qt)
    have hO' := q1.gd.geo.okO
    refine .inr (.inr ⟨rfl, hSp, fun j hj => ?_, ?_⟩)
    · rw [qO] at hO' ⊢
      rw [q8, trn_put hO hL hp (by omega) hs2.2.2.2.1 hO']
      by_cases e : j = p
      · rw [if_pos e]
        subst e
        rw [List.getElem?_set_self (by have := h.sl; omega)]
      · rw [if_neg e, List.getElem?_set_ne (fun e' => e e'.symm)]
        exact hs j hj
    · rw [q6, q8, qO]
      omega
/-- A Commit without metadata. -/
theorem Rm.commit (h : Rm w wr n wp sp q t ep Z S a v D Lc now last) (hT : Blo.Tab w) (ht : t < 600000) (he : ep < 1000000) :
    Calls Tryz.prog 48 #[.pointer (some ⟨sp, 0, none⟩), .slice none 0 0] wr fun e w' => e = .returned (.int .i64 0) ∧ ∃ a' v' D' Lc', Rm w w' n wp sp q (t + 1040) (ep + 1) Z S a' v' D' Lc' now now ∧ ∀ p, trn v'.O v'.L p = false := by
  have HC := h.sp_.commit hT (by omega) none 0 0 [] rfl (Bytes.nil _ _) (fun _ => ⟨rfl, rfl⟩) (fun p e => by cases e)
  have hsp := h.asp
  rw [hsp] at HC
  refine HC.mono ?_
  rintro e w' ⟨D', Lc', a', v', q2, q3, q4, hc⟩
  have hep := h.ep_
  rcases hc with ⟨_, q, _⟩ | ⟨_, q, _⟩ | ⟨rfl, _, _, rfl, q1⟩
  · have : ([] : List UInt8).length = 0 := rfl
    omega
  · omega
  · exact ⟨rfl, a', _, D', Lc', h.next q1 (q3.trans hsp.symm) q2 (by show v.ep + 1 ≤ _; omega), fun p => trn_same _ p⟩
end
end Go.Proofs.YtolpgpphjnkehaaGreatDoor
