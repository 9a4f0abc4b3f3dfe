/- heap: the reference's Copy and Same of objects. -/
import Derived.Test.YtclkkfffecmjnaaYa
namespace Go.Proofs.Ytclkkfffecmjnaa
open Go.RowKit
set_option linter.unusedVariables false
attribute [local go_sem] Oper.semAt_some
set_option maxRecDepth 20000 in
set_option maxHeartbeats 2000000 in
theorem copyobj_any (o : Ob) (A : Option Addr) (c : Nat) (w : World) (hl : o.ws.length ≤ 100000) (hA : Words w A o.ws) :
    Calls Try.prog 38 #[.agg #[.int .u8 (o.k : Int), .int .i64 o.tag, .slice A o.ws.length c, .string (str o.t)]] w fun e w' => ∃ v A' c', e = .returned v ∧ ObV (w.heap.size + 3) w' v o A' c' ∧ Below w.heap.size w w' := by
  obtain ⟨k, tag, ws, t⟩ := o
  dsimp only at hl hA ⊢
  obtain ⟨n, hn⟩ : ∃ n, ws.length = n := ⟨_, rfl⟩
  rw [hn] at hl ⊢
  have HN := Lib.hid hn
  obtain ⟨w0, hw0⟩ : ∃ w0, (w.alloc (.cells #[.int .u8 (k : Int), .int .i64 tag, .slice A n c, .string (str t)] 35)).alloc (.cells #[.int .u8 0, .int .i64 0, .slice none 0 0, .string ⟨#[]⟩] 35) = w0 := ⟨_, rfl⟩
  have hB0 : Blk w0 w.heap.size 35 #[.int .u8 (k : Int), .int .i64 tag, .slice A n c, .string (str t)] := by rw [← hw0]; exact (Blk.new _ _ _).alloc _
  have hB1 : Blk w0 (w.heap.size + 1) 35 #[.int .u8 0, .int .i64 0, .slice none 0 0, .string ⟨#[]⟩] := by
    have := Blk.new (w.alloc (.cells #[.int .u8 (k : Int), .int .i64 tag, .slice A n c, .string (str t)] 35)) 35 #[.int .u8 0, .int .i64 0, .slice none 0 0, .string ⟨#[]⟩]
    rw [World.size_alloc] at this
    rw [← hw0]; exact this
  have hb0 : Below w.heap.size w w0 := by rw [← hw0]; exact ((Below.refl _ _).alloc (Nat.le_refl _) _).alloc (by rw [World.size_alloc]; omega) _
  have hz0 : w0.heap.size = w.heap.size + 2 := by rw [← hw0]; simp
  have d0 : w0.cell? ⟨w.heap.size, 0, none⟩ = some (.int .u8 (k : Int)) := hB0.cell 0
  have d1 : w0.cell? ⟨w.heap.size, 1, none⟩ = some (.int .i64 tag) := hB0.cell 1
  have d2 : w0.cell? ⟨w.heap.size, 2, none⟩ = some (.slice A n c) := hB0.cell 2
  have d3 : w0.cell? ⟨w.heap.size, 3, none⟩ = some (.string (str t)) := hB0.cell 3
  obtain ⟨wX, hwX⟩ : ∃ wX, w0.alloc (.cells #[.int .u8 (k : Int), .int .i64 tag, .slice none 0 0, .string (str t)] 35) = wX := ⟨_, rfl⟩
  have hbX : Below w0.heap.size w0 wX := by rw [← hwX]; exact (Below.refl _ _).alloc (Nat.le_refl _) _
  have hX : Blk wX w0.heap.size 35 #[.int .u8 (k : Int), .int .i64 tag, .slice none 0 0, .string (str t)] := by rw [← hwX]; exact Blk.new _ _ _
  have hzX : wX.heap.size = w.heap.size + 3 := by rw [← hwX]; simp; omega
  obtain ⟨v', w5, hrun, hW5, hg5, _⟩ := run_appW wX (w.heap.size + 3) (.slice none 0 0) 0 [] (World.ownsRow_nil _ _ _ _) A n c ws hn (hA.below (hb0.trans (hbX.mono hb0.size))) (by omega) (by omega)
  rw [List.nil_append, Nat.zero_add] at hW5
  have x2 : wX.cell? ⟨w.heap.size, 2, none⟩ = some (.slice A n c) := (hbX.cell (p := ⟨w.heap.size, 2, none⟩) (by show w.heap.size < _; omega)).trans d2
  have hX5 := hX.grown hg5 (by simp [Value.ownBlock])
  have hR5 := (hB1.below hbX hB1.lt).grown hg5 (by simp [Value.ownBlock])
  have e0 : w5.cell? ⟨w0.heap.size, 0, none⟩ = some (.int .u8 (k : Int)) := hX5.cell 0
  have e1 : w5.cell? ⟨w0.heap.size, 1, none⟩ = some (.int .i64 tag) := hX5.cell 1
  have e2 : w5.cell? ⟨w0.heap.size, 2, none⟩ = some (.slice none 0 0) := hX5.cell 2
  have e3 : w5.cell? ⟨w0.heap.size, 3, none⟩ = some (.string (str t)) := hX5.cell 3
  have r0 : w5.cell? ⟨w.heap.size + 1, 0, none⟩ = some (.int .u8 0) := hR5.cell 0
  have r1 : w5.cell? ⟨w.heap.size + 1, 1, none⟩ = some (.int .i64 0) := hR5.cell 1
  have r2 : w5.cell? ⟨w.heap.size + 1, 2, none⟩ = some (.slice none 0 0) := hR5.cell 2
  have r3 : w5.cell? ⟨w.heap.size + 1, 3, none⟩ = some (.string ⟨#[]⟩) := hR5.cell 3
  have f0 := hX5.frozen
  have f1 := hR5.frozen
  have hne : ¬ (w0.heap.size = w.heap.size + 1) := by omega
  have hne' : ¬ (w.heap.size + 1 = w0.heap.size) := by omega
  rw [← hwX] at hrun x2
  obtain ⟨A', c', rfl⟩ := own_slice hW5
  have HV := Lib.hid (WRow.of_own hW5 hA.all)
  have HB5 : Hid (Below w.heap.size w w5) := Lib.hid ((hb0.trans (hbX.mono hb0.size)).grown hg5 (by omega) (fun k e => by simp [Value.ownBlock] at e))
  have HR5 := Lib.hid hR5
  have HRUN := Lib.hid hrun
  have HZ0 := Lib.hid hz0
  clear hW5 hz0 hzX hA hn hrun hX5 hR5 hbX hX hB0 hB1 hg5 hwX hb0
  go_enter Try.func38, Try.ntmps38
  go_wp2_with (at_builtin; refine wpList_app rfl _ _ 33 rfl _ _ _ _ rfl rfl HRUN.out ?_; clear HRUN)
  have HB6 : Blk (((((w5.setCell ⟨w0.heap.size, 2, none⟩ (.slice A' n c')).setCell ⟨w.heap.size + 1, 0, none⟩ (.int .u8 (k : Int))).setCell ⟨w.heap.size + 1, 1, none⟩ (.int .i64 tag)).setCell ⟨w.heap.size + 1, 2, none⟩ (.slice A' n c')).setCell ⟨w.heap.size + 1, 3, none⟩ (.string (str t))) (w.heap.size + 1) 35 #[.int .u8 (k : Int), .int .i64 tag, .slice A' n c', .string (str t)] :=
    ((((HR5.out.far (p := ⟨w0.heap.size, 2, none⟩) hne' _).set_ 0 _).set_ 1 _).set_ 2 _).set_ 3 _
  have hz0 := HZ0.out
  refine bodyPost_ret (results_cell_row rfl _ _ (w.heap.size + 1) 35 _ (0, 0) _ rfl HB6 Try.underlying35 rfl (by kernel_rfl)) rfl ?_
  have ho : Off (fun k => k = w0.heap.size ∨ k = w.heap.size + 1) w5 (((((w5.setCell ⟨w0.heap.size, 2, none⟩ (.slice A' n c')).setCell ⟨w.heap.size + 1, 0, none⟩ (.int .u8 (k : Int))).setCell ⟨w.heap.size + 1, 1, none⟩ (.int .i64 tag)).setCell ⟨w.heap.size + 1, 2, none⟩ (.slice A' n c')).setCell ⟨w.heap.size + 1, 3, none⟩ (.string (str t))) :=
    offS (offS (offS (offS (offS (Off.refl _ _) _ _ _ (.inl rfl)) _ _ _ (.inr rfl)) _ _ _ (.inr rfl)) _ _ _ (.inr rfl)) _ _ _ (.inr rfl)
  refine ⟨_, A', c', rfl, ⟨?_, ?_⟩, HB5.out.trans (ho.below HB5.out.size (fun k e => by rcases e with e | e <;> omega))⟩
  · dsimp only; rw [HN.out]
  · dsimp only
    rw [HN.out]
    have hr' := HV.out
    exact hr'.same ho.size fun p e => ho.block _ (hr'.blk p e).2.2.2 fun e' => by have := (hr'.blk p e).2.2.1; rcases e' with e' | e' <;> omega
set_option maxRecDepth 20000 in
set_option maxHeartbeats 2000000 in
theorem same_ok (o : Ob) (A B : Option Addr) (c c' : Nat) (w : World) (hA : Words w A o.ws) (hB : Words w B o.ws) (hl : o.ws.length ≤ 100000) :
    Calls Try.prog 33 #[.agg #[.int .u8 (o.k : Int), .int .i64 o.tag, .slice A o.ws.length c, .string (str o.t)], .agg #[.int .u8 (o.k : Int), .int .i64 o.tag, .slice B o.ws.length c', .string (str o.t)]] w fun e w' => e = .returned (.bool true) ∧ Below w.heap.size w w' := by
  obtain ⟨kn, tag, ws, t⟩ := o
  dsimp only at hl hA hB ⊢
  obtain ⟨n, hn⟩ : ∃ n, ws.length = n := ⟨_, rfl⟩
  rw [hn] at hl ⊢
  have HN := Lib.hid hn
  obtain ⟨w0, hw0⟩ : ∃ w0, (w.alloc (.cells #[.int .u8 (kn : Int), .int .i64 tag, .slice A n c, .string (str t)] 35)).alloc (.cells #[.int .u8 (kn : Int), .int .i64 tag, .slice B n c', .string (str t)] 35) = w0 := ⟨_, rfl⟩
  have hB0 : Blk w0 w.heap.size 35 #[.int .u8 (kn : Int), .int .i64 tag, .slice A n c, .string (str t)] := by rw [← hw0]; exact (Blk.new _ _ _).alloc _
  have hB1 : Blk w0 (w.heap.size + 1) 35 #[.int .u8 (kn : Int), .int .i64 tag, .slice B n c', .string (str t)] := by
    have := Blk.new (w.alloc (.cells #[.int .u8 (kn : Int), .int .i64 tag, .slice A n c, .string (str t)] 35)) 35 #[.int .u8 (kn : Int), .int .i64 tag, .slice B n c', .string (str t)]
    rw [World.size_alloc] at this
    rw [← hw0]; exact this
  have hb0 : Below w.heap.size w w0 := by rw [← hw0]; exact ((Below.refl _ _).alloc (Nat.le_refl _) _).alloc (by rw [World.size_alloc]; omega) _
  have d0 : w0.cell? ⟨w.heap.size, 0, none⟩ = some (.int .u8 (kn : Int)) := hB0.cell 0
  have d1 : w0.cell? ⟨w.heap.size, 1, none⟩ = some (.int .i64 tag) := hB0.cell 1
  have d2 : w0.cell? ⟨w.heap.size, 2, none⟩ = some (.slice A n c) := hB0.cell 2
  have d3 : w0.cell? ⟨w.heap.size, 3, none⟩ = some (.string (str t)) := hB0.cell 3
  have x0 : w0.cell? ⟨w.heap.size + 1, 0, none⟩ = some (.int .u8 (kn : Int)) := hB1.cell 0
  have x1 : w0.cell? ⟨w.heap.size + 1, 1, none⟩ = some (.int .i64 tag) := hB1.cell 1
  have x2 : w0.cell? ⟨w.heap.size + 1, 2, none⟩ = some (.slice B n c') := hB1.cell 2
  have x3 : w0.cell? ⟨w.heap.size + 1, 3, none⟩ = some (.string (str t)) := hB1.cell 3
  have HB := Lib.hid hb0
  have HA := Lib.hid (hA.below hb0)
  have HBW := Lib.hid (hB.below hb0)
  clear hB0 hB1 hb0 hA hB hn
  go_enter Try.func33, Try.ntmps33
  go_wp2_with fail
  go_loopw [5] (fun iv wr => ∃ i q : Nat, i ≤ n ∧ iv = .int .i64 (i : Int) ∧ wr = w0.drewN q) (fun iv _ => n - (intOf iv).toNat)
  case atStart => exact ⟨0, 0, Nat.zero_le _, rfl, rfl⟩
  case round =>
    obtain ⟨i, q, hi, rfl, rfl⟩ := hrel
    by_cases hlt : i < n
    · have hd : decide ((i : Int) < (n : Int)) = true := by simpa using hlt
      obtain ⟨x, hx⟩ : ∃ x, ws[i]? = some x := ⟨_, List.getElem?_eq_getElem (by rw [HN.out]; exact hlt)⟩
      obtain ⟨bx, off, rfl, hblt, e0, e1, hr⟩ := HA.out i x hx
      obtain ⟨by_, off', rfl, hblt', y0, y1, _⟩ := HBW.out i x hx
      obtain ⟨un, nx⟩ := x
      dsimp only at e0 e1 hr y0 y1
      clear hx
      go_wp2_with fail
      go_quiet (fail)
      go_wp2_with fail
      go_roundw
      case rel => exact ⟨i + 1, _, by omega, by go_num, rfl⟩
      case measure => simp [intOf]; omega
    · obtain rfl : n = i := by omega
      have hd : decide ((n : Int) < (n : Int)) = false := by simp
      go_wp2_with fail
      go_ret
      exact ⟨rfl, HB.out.trans ((drewN_below w0 q).mono HB.out.size)⟩
end Go.Proofs.Ytclkkfffecmjnaa
