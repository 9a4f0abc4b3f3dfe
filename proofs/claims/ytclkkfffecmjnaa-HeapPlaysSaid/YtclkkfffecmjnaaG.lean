/- heap: New, Get, Word. -/
import Derived.Test.YtclkkfffecmjnaaE
namespace Go.Proofs.Ytclkkfffecmjnaa
open Go.RowKit
attribute [local go_sem] Oper.semAt_some
theorem results_cell_row2 {P : Program} {fn : Func} {p u : Tmp} {ty : TypeId} (h : fn.results = #[.cell p ty, .tmp u]) (tmps : Array Value) (w : World) (g : Nat) (t : TypeId) (cs : Array Value) (fr : Nat × Nat) (d : TypeDesc)
    (hp : tmps.getD p undef = .pointer (some ⟨g, 0, none⟩)) (hg : w.heap[g]? = some (.cells cs t fr))
    (hu : P.underlying ty = some d) (hd : (match d with | .struct _ | .array _ _ => true | _ => false) = true) (hi : (P.info? ty).map (·.size) = some cs.size) :
    (results fn tmps).run P w = .ok (.tuple #[.agg cs, tmps.getD u undef]) w := by
  have hp' : tmps[p]?.getD undef = .pointer (some ⟨g, 0, none⟩) := by simpa using hp
  simp [results, h, hp', asAddr, run_loadVar_row w g t ty cs fr d hg hu hd hi, Result.andThen]
def newH (limit : Nat) : HS := ⟨limit, 0, 0, [], []⟩
theorem new_no (n : Int) (w : World) (h : n < 1 ∨ 16777216 < n) : Calls Try.prog 13 #[.int .i64 n] w fun e w' => e = .returned (.tuple #[.pointer none, .int .i64 1]) ∧ w = w' := by
  by_cases h1 : n < 1
  · go_enter Try.func13, Try.ntmps13
    go_wp2_with fail
    go_ret2
    exact ⟨rfl, rfl⟩
  · have h2 : 16777216 < n := by omega
    have h3 : ¬ n < 1 := h1
    have h4 : 1 ≤ n := by omega
    clear h
    go_enter Try.func13, Try.ntmps13
    go_wp2_with fail
    go_ret2
    exact ⟨rfl, rfl⟩
theorem newOk (l : Nat) (h : 1 ≤ l ∧ l ≤ 16777216) : (newH l).Ok 0 :=
  ⟨List.Pairwise.nil, (fun x hx => by cases hx), List.Pairwise.nil, (fun x hx => by cases hx), (fun x hx => by cases hx), (fun x hx => by cases hx), rfl, ⟨Nat.zero_le _, h.1, h.2⟩, Nat.le_refl _⟩
set_option maxHeartbeats 400000 in
theorem new_ok (l : Nat) (w0 w : World) (X : Nat → Prop) (hX : ∀ b, X b → b < w.heap.size) (hb : Below w0.heap.size w0 w) (h : 1 ≤ l ∧ l ≤ 16777216) :
    Calls Try.prog 13 #[.int .i64 (l : Int)] w fun e w' => ∃ g, e = .returned (.tuple #[.pointer (some ⟨g, 0, none⟩), .int .i64 0]) ∧ HR w0 w' X g 0 (newH l) ∧ Below w.heap.size w w' := by
  have hmm := @run_makeMap Try.prog
  obtain ⟨s, hs⟩ : ∃ s, w.heap.size = s := ⟨_, rfl⟩
  have hf : Below w.heap.size w ((((w.alloc (.map #[] 0)).alloc (.map #[] 0)).alloc (.map #[] 0)).alloc (.cells #[.int .i64 (l : Int), .int .i64 0, .int .i64 0, .map (some s), .map (some (s + 1)), .map (some (s + 1 + 1))] 80)) :=
    ((((Below.refl _ w).alloc (Nat.le_refl _) _).alloc (by simp) _).alloc (by simp; omega) _).alloc (by simp; omega) _
  have hm : HM ((((w.alloc (.map #[] 0)).alloc (.map #[] 0)).alloc (.map #[] 0)).alloc (.cells #[.int .i64 (l : Int), .int .i64 0, .int .i64 0, .map (some s), .map (some (s + 1)), .map (some (s + 1 + 1))] 80))
      ⟨s + 1 + 1 + 1, s, s + 1, s + 1 + 1, fun _ => 0, fun b => if b = s then .mp 0 else if b = s + 1 then .mp 1 else if b = s + 1 + 1 then .mp 2 else if b = s + 1 + 1 + 1 then .hd else .no⟩ 0 (newH l) := by
    have h1 := PMap.made w
    have h2 := NMap.made (w.alloc (.map #[] 0))
    have h3 := NMap.made ((w.alloc (.map #[] 0)).alloc (.map #[] 0))
    have h4 := Blk.new (((w.alloc (.map #[] 0)).alloc (.map #[] 0)).alloc (.map #[] 0)) 80 #[.int .i64 (l : Int), .int .i64 0, .int .i64 0, .map (some s), .map (some (s + 1)), .map (some (s + 1 + 1))]
    simp only [World.size_alloc, hs] at h1 h2 h3 h4
    have z : ∀ (W : World) o b, b < W.heap.size → (W.alloc o).heap[b]? = W.heap[b]? := fun W o b hb => Below.heap_alloc _ _ _ hb
    refine ⟨h4, (((h1.same (z _ _ _ ?_)).same (z _ _ _ ?_)).same (z _ _ _ ?_)), ((h2.same (z _ _ _ ?_)).same (z _ _ _ ?_)), (h3.same (z _ _ _ ?_)), (fun x hx => by cases hx), ?_, ?_, ?_, ?_, fun b hb => ?_⟩
    any_goals (simp only [World.size_alloc, hs]; omega)
    · dsimp only; rw [if_neg (by omega), if_neg (by omega), if_neg (by omega), if_pos rfl]
    · dsimp only; rw [if_pos rfl]
    · dsimp only; rw [if_neg (by omega), if_pos rfl]
    · dsimp only; rw [if_neg (by omega), if_neg (by omega), if_pos rfl]
    · simp only [World.size_alloc, hs]
      by_cases c : b < s + 1 + 1 + 1 + 1
      · exact c
      · exfalso
        apply hb
        dsimp only
        rw [if_neg (by omega), if_neg (by omega), if_neg (by omega), if_neg (by omega)]
  have HR0 : Hid (HR w0 ((((w.alloc (.map #[] 0)).alloc (.map #[] 0)).alloc (.map #[] 0)).alloc (.cells #[.int .i64 (l : Int), .int .i64 0, .int .i64 0, .map (some s), .map (some (s + 1)), .map (some (s + 1 + 1))] 80)) X (s + 1 + 1 + 1) 0 (newH l)) := Lib.hid
    ⟨⟨_, 0, hm, rfl, Nat.le_refl _, fun b hb' => by
      dsimp only at hb'
      have hge : s ≤ b := by
        by_cases c : s ≤ b
        · exact c
        · exfalso
          apply hb'
          rw [if_neg (by omega), if_neg (by omega), if_neg (by omega), if_neg (by omega)]
      have := hb.size
      exact ⟨by omega, fun hx => by have := hX b hx; omega⟩⟩, fun b hx => Nat.lt_of_lt_of_le (hX b hx) hf.size, hb.trans (hf.mono hb.size), newOk l h⟩
  have HF := Lib.hid hf
  obtain ⟨h1, h2⟩ := h
  have d1 : decide ((l : Int) < 1) = false := by simp; omega
  have d2 : decide ((l : Int) > 16777216) = false := by simp; omega
  clear hm hf hb hX
  subst hs
  go_enter Try.func13, Try.ntmps13
  go_wp2_with fail
  go_ret2
  exact ⟨_, rfl, HR0.out, HF.out⟩
section
variable {w : World} {M : Mem} {n : Nat} {H : HS}
/-- Where a handle's object lies. -/
theorem HM.at_ (h : HM w M n H) {k : Int} {x : Ho} (hx : H.obj k = some x) : atH M.B H.L k = some (M.B x.h) := by
  unfold atH
  unfold HS.obj at hx
  rw [hx]; rfl
theorem HM.no (h : HM w M n H) {k : Int} (hx : H.obj k = none) : atH M.B H.L k = none := by
  unfold atH
  unfold HS.obj at hx
  rw [hx]; rfl
theorem at_some (h : HM w M n H) (k : Int) (hk : (Lit.int .i64 k).wf = true) {x : Ho} (hx : H.obj k = some x) : Calls Try.prog 62 #[.pointer (some ⟨M.g, 0, none⟩), .int .i64 k] w fun e w' => e = .returned (.pointer (some ⟨M.B x.h, 0, none⟩)) ∧ w = w' := by
  have := at_any h k hk
  rw [h.at_ hx] at this
  exact this
theorem at_none (h : HM w M n H) (k : Int) (hk : (Lit.int .i64 k).wf = true) (hx : H.obj k = none) : Calls Try.prog 62 #[.pointer (some ⟨M.g, 0, none⟩), .int .i64 k] w fun e w' => e = .returned (.pointer none) ∧ w = w' := by
  have := at_any h k hk
  rw [h.no hx] at this
  exact this
set_option maxRecDepth 20000 in
set_option maxHeartbeats 1000000 in
theorem get_none (h : HM w M n H) (k : Int) (hk : (Lit.int .i64 k).wf = true) (hx : H.obj k = none) :
    Calls Try.prog 30 #[.pointer (some ⟨M.g, 0, none⟩), .int .i64 k] w fun e w' => e = .returned (.tuple #[.agg #[.int .u8 0, .int .i64 0, .slice none 0 0, .string ⟨#[]⟩], .bool false]) ∧ Below w.heap.size w w' := by
  obtain ⟨w0, hw0⟩ : ∃ w0, w.alloc (.cells #[.int .u8 0, .int .i64 0, .slice none 0 0, .string ⟨#[]⟩] 35) = w0 := ⟨_, rfl⟩
  have hb : Below w.heap.size w w0 := by rw [← hw0]; exact (Below.refl _ _).alloc (Nat.le_refl _) _
  have hR : Blk w0 w.heap.size 35 #[.int .u8 0, .int .i64 0, .slice none 0 0, .string ⟨#[]⟩] := by rw [← hw0]; exact Blk.new _ _ _
  have H1 := Lib.hid (at_none (h.keep hb.size fun b hR => hb.block b (h.lt b hR)) k hk hx)
  have r0 := hR.cell 0
  have r1 := hR.cell 1
  have r2 := hR.cell 2
  have r3 := hR.cell 3
  have rf := hR.frozen
  simp only [List.getElem?_toArray, List.getElem?_cons_zero, List.getElem?_cons_succ] at r0 r1 r2 r3
  have HR := Lib.hid (And.intro hb hR)
  clear h hb hR
  go_enter Try.func30, Try.ntmps30
  go_wp2_with fail
  refine H1.out.mono ?_
  rintro e w1 ⟨rfl, rfl⟩
  clear hw0 H1
  go_wp2_with fail
  have HB6 := (((HR.out.2.set_ 0 (.int .u8 0)).set_ 1 (.int .i64 0)).set_ 2 (.slice none 0 0)).set_ 3 (.string ⟨#[]⟩)
  refine bodyPost_ret (results_cell_row2 rfl _ _ w.heap.size 35 _ (0, 0) _ rfl HB6 Try.underlying35 rfl (by kernel_rfl)) rfl ?_
  exact ⟨rfl, (((HR.out.1.setCell (p := ⟨w.heap.size, 0, none⟩) (Nat.le_refl _) _).setCell (p := ⟨w.heap.size, 1, none⟩) (Nat.le_refl _) _).setCell (p := ⟨w.heap.size, 2, none⟩) (Nat.le_refl _) _).setCell (p := ⟨w.heap.size, 3, none⟩) (Nat.le_refl _) _⟩
set_option maxRecDepth 20000 in
set_option maxHeartbeats 1000000 in
theorem get_nil (k : Int) (w : World) :
    Calls Try.prog 30 #[.pointer none, .int .i64 k] w fun e w' => e = .returned (.tuple #[.agg #[.int .u8 0, .int .i64 0, .slice none 0 0, .string ⟨#[]⟩], .bool false]) ∧ Below w.heap.size w w' := by
  obtain ⟨w0, hw0⟩ : ∃ w0, w.alloc (.cells #[.int .u8 0, .int .i64 0, .slice none 0 0, .string ⟨#[]⟩] 35) = w0 := ⟨_, rfl⟩
  have hb : Below w.heap.size w w0 := by rw [← hw0]; exact (Below.refl _ _).alloc (Nat.le_refl _) _
  have hR : Blk w0 w.heap.size 35 #[.int .u8 0, .int .i64 0, .slice none 0 0, .string ⟨#[]⟩] := by rw [← hw0]; exact Blk.new _ _ _
  have H1 := Lib.hid (at_nil k w0)
  have r0 := hR.cell 0
  have r1 := hR.cell 1
  have r2 := hR.cell 2
  have r3 := hR.cell 3
  have rf := hR.frozen
  simp only [List.getElem?_toArray, List.getElem?_cons_zero, List.getElem?_cons_succ] at r0 r1 r2 r3
  have HR := Lib.hid (And.intro hb hR)
  clear  hb hR
  go_enter Try.func30, Try.ntmps30
  go_wp2_with fail
  refine H1.out.mono ?_
  rintro e w1 ⟨rfl, rfl⟩
  clear hw0 H1
  go_wp2_with fail
  have HB6 := (((HR.out.2.set_ 0 (.int .u8 0)).set_ 1 (.int .i64 0)).set_ 2 (.slice none 0 0)).set_ 3 (.string ⟨#[]⟩)
  refine bodyPost_ret (results_cell_row2 rfl _ _ w.heap.size 35 _ (0, 0) _ rfl HB6 Try.underlying35 rfl (by kernel_rfl)) rfl ?_
  exact ⟨rfl, (((HR.out.1.setCell (p := ⟨w.heap.size, 0, none⟩) (Nat.le_refl _) _).setCell (p := ⟨w.heap.size, 1, none⟩) (Nat.le_refl _) _).setCell (p := ⟨w.heap.size, 2, none⟩) (Nat.le_refl _) _).setCell (p := ⟨w.heap.size, 3, none⟩) (Nat.le_refl _) _⟩
set_option maxRecDepth 20000 in
set_option maxHeartbeats 1000000 in
theorem get_some (h : HM w M n H) {t : Nat} (hok : H.Ok t) (k : Int) (hk : (Lit.int .i64 k).wf = true) {x : Ho} (hx : H.obj k = some x) :
    Calls Try.prog 30 #[.pointer (some ⟨M.g, 0, none⟩), .int .i64 k] w fun e w' => ∃ v A c, e = .returned (.tuple #[v, .bool true]) ∧ ObV (w.heap.size + 1) w' v x.o A c ∧ Below w.heap.size w w' := by
  have hb : Below w.heap.size w (w.alloc (.cells #[.int .u8 0, .int .i64 0, .slice none 0 0, .string ⟨#[]⟩] 35)) := (Below.refl _ _).alloc (Nat.le_refl _) _
  have hR := Blk.new w 35 #[.int .u8 0, .int .i64 0, .slice none 0 0, .string ⟨#[]⟩]
  obtain ⟨w0, hw0⟩ : ∃ w0, w.alloc (.cells #[.int .u8 0, .int .i64 0, .slice none 0 0, .string ⟨#[]⟩] 35) = w0 := ⟨_, rfl⟩
  have hsz : w0.heap.size = w.heap.size + 1 := by rw [← hw0, World.size_alloc]
  rw [hw0] at hb hR
  have H1 := Lib.hid (at_some (h.keep hb.size fun b hR => hb.block b (h.lt b hR)) k hk hx)
  have hxl := (HS.obj_some hx).1
  obtain ⟨A, c, hh⟩ := h.held x hxl
  have hblk := hh.blk.below hb hh.blk.lt
  have hsm := (hok.inn x hxl).2.2.1
  have HO := Lib.hid (own_any x.o A c w0 (by have := hsm.1; omega) (hh.row.words.below hb))
  obtain ⟨f, hf⟩ : ∃ f, M.B x.h = f := ⟨_, rfl⟩
  rw [hf] at hblk H1
  have q0 := hblk.cell 0
  have q1 := hblk.cell 1
  have q2 := hblk.cell 2
  have q3 := hblk.cell 3
  unfold heldC at q0 q1 q2 q3
  simp only [List.getElem?_toArray, List.getElem?_cons_zero, List.getElem?_cons_succ] at q0 q1 q2 q3
  have r0 := hR.cell 0
  have r1 := hR.cell 1
  have r2 := hR.cell 2
  have r3 := hR.cell 3
  have rf := hR.frozen
  simp only [List.getElem?_toArray, List.getElem?_cons_zero, List.getElem?_cons_succ] at r0 r1 r2 r3
  have HRR := Lib.hid (And.intro hb (And.intro hR hsz))
  clear h hb hR hh hblk hsm hsz hf hxl
  go_enter Try.func30, Try.ntmps30
  go_wp2_with fail
  refine H1.out.mono ?_
  rintro e w1 ⟨rfl, rfl⟩
  clear hw0 H1
  go_wp2_with fail
  refine HO.out.mono ?_
  rintro e w2 ⟨v, A', c', rfl, hv, hb2⟩
  obtain ⟨rfl, hrow⟩ := hv
  have hR2 := HRR.out.2.1.below hb2 HRR.out.2.1.lt
  have s0 := hR2.cell 0
  have s1 := hR2.cell 1
  have s2 := hR2.cell 2
  have s3 := hR2.cell 3
  have sf := hR2.frozen
  simp only [List.getElem?_toArray, List.getElem?_cons_zero, List.getElem?_cons_succ] at s0 s1 s2 s3
  have HV := Lib.hid (And.intro hrow (And.intro hb2 hR2))
  clear hrow hb2 hR2 HO q0 q1 q2 q3 r0 r1 r2 r3 rf
  go_wp2_with fail
  have HB6 := (((HV.out.2.2.set_ 0 (.int .u8 (x.o.k : Int))).set_ 1 (.int .i64 x.o.tag)).set_ 2 (.slice A' x.o.ws.length c')).set_ 3 (.string (str x.o.t))
  refine bodyPost_ret (results_cell_row2 rfl _ _ w.heap.size 35 _ (0, 0) _ rfl HB6 Try.underlying35 rfl (by kernel_rfl)) rfl ?_
  have ho : Off (fun k => k = w.heap.size) w2 ((((w2.setCell ⟨w.heap.size, 0, none⟩ (.int .u8 (x.o.k : Int))).setCell ⟨w.heap.size, 1, none⟩ (.int .i64 x.o.tag)).setCell ⟨w.heap.size, 2, none⟩ (.slice A' x.o.ws.length c')).setCell ⟨w.heap.size, 3, none⟩ (.string (str x.o.t))) :=
    offS (offS (offS (Off.setc _ _ _ _) _ _ _ rfl) _ _ _ rfl) _ _ _ rfl
  obtain ⟨hrow, hb2, _⟩ := HV.out
  obtain ⟨hb, _, hsz⟩ := HRR.out
  have hb02 := hb.trans (hb2.mono hb.size)
  refine ⟨_, A', c', rfl, ⟨rfl, (hrow.same ho.size fun p e => ho.block _ (hrow.blk p e).2.2.2 fun e' => ?_).mono (by omega)⟩, hb02.trans (ho.below hb02.size fun k e => by have e' : k = w.heap.size := e; omega)⟩
  have e' : p.block = w.heap.size := e'
  have := (hrow.blk p e).2.2.1
  omega
end
end Go.Proofs.Ytclkkfffecmjnaa
