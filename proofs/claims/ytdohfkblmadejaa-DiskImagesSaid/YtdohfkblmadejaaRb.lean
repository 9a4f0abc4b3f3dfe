/- The reference's New. -/
import Derived.Test.YtdohfkblmadejaaRa
import Derived.Deep.RegionLaw
namespace Go.Proofs.Ytdohfkblmadejaa
open Go.RowKit Dsk

/-- append in a region that draws, where its run is known. -/
theorem step_app {P : Program} {ops : Array Oper} {o : Oper} {a : Act} {w : World} {K : Act → World → Prop} {Q : Exit → Act → World → Prop} {E : Prop} (hg : o.guard = none) (s x : Operand) (t : TypeId)
    (hop : o.op = Op.call { callee := Callee.builtin Builtin.append, args := #[s, x], argTypes := #[t, t] }) (v xv v' : Value) (w' : World) (hs : a.eval s = v) (hx : a.eval x = xv)
    (hrun : (Builtin.append_ #[t, t] o.type #[v, xv]).run P w = .ok v' w') (hK : K (a.put o.dst v') w') : if Region.wanted o (yielded ops a.tmps) = true then Oper.wp P o a w K Q else E := by
  rw [if_pos (show Region.wanted o (yielded ops a.tmps) = true by simp [Region.wanted, hg])]
  unfold Oper.wp execOp
  simp only [hop, resolve, invoke, builtin, Sem.run_bind, Sem.run_pure, Result.andThen_ok, List.map_toArray, List.map_cons, List.map_nil, hs, hx, hrun]
  exact hK

theorem rnew_no (n : Int) (w : World) (h : n < 16 ∨ 4096 < n) : Calls Try.prog 13 #[.int .i64 n] w fun e w' => e = .returned (.tuple #[.pointer none, .int .i64 1]) ∧ w = w' := by
  by_cases h1 : n < 16
  · go_enter Try.func13, Try.ntmps13
    go_wp2
    go_ret2
    exact ⟨rfl, rfl⟩
  · have h2 : 4096 < n := by omega
    have h3 : 16 ≤ n := by omega
    clear h
    go_enter Try.func13, Try.ntmps13
    go_wp2
    go_ret2
    exact ⟨rfl, rfl⟩

/-- Sectors that are appended to. -/
structure SecsO (w : World) (E : Nat → Prop) (sv : Value) (S : List (List UInt8)) : Prop where
  own : ∃ vs : List Value, w.ownsRow 0 32 1 sv S.length vs ∧ ∀ (k : Nat) (b : List UInt8), S[k]? = some b → ∃ v, vs[k]? = some v ∧ Sec w E v b
theorem SecsO.nil (w : World) (E : Nat → Prop) : SecsO w E (.slice none 0 0) [] := ⟨[], World.ownsRow_nil _ _ _ _, fun k p h => by simp at h⟩
theorem SecsO.shape {w : World} {E : Nat → Prop} {sv : Value} {S : List (List UInt8)} (h : SecsO w E sv S) : ∃ A c, sv = .slice A S.length c ∧ S.length ≤ c ∧ c ≤ maxLen := by
  obtain ⟨vs, ho, _⟩ := h.own
  rcases ho.2 with ⟨rfl, h0⟩ | ⟨g, cap, cur, rfl, _, _, h1, h2, _⟩
  · exact ⟨none, 0, by rw [h0], by omega, Nat.zero_le _⟩
  · exact ⟨_, _, rfl, h1, h2⟩
theorem SecsO.lt {w : World} {E : Nat → Prop} {sv : Value} {S : List (List UInt8)} (h : SecsO w E sv S) (k : Nat) (hk : sv.ownBlock = some k) : k < w.heap.size := by
  obtain ⟨vs, ho, _⟩ := h.own
  exact (ho.lt k hk).2
theorem SecsO.same {w w' : World} {E : Nat → Prop} {sv : Value} {S : List (List UInt8)} (h : SecsO w E sv S) (hs : w.heap.size ≤ w'.heap.size)
    (hE : ∀ k, E k → k < w.heap.size → w'.heap[k]? = w.heap[k]?) (hr : ∀ k, sv.ownBlock = some k → w'.heap[k]? = w.heap[k]?) : SecsO w' E sv S := by
  obtain ⟨vs, ho, hv⟩ := h.own
  refine ⟨vs, ⟨ho.1, ?_⟩, fun k p hp => ?_⟩
  · rcases ho.2 with h0 | ⟨g, cap, cur, rfl, h1, h2, h3⟩
    · exact .inl h0
    · exact .inr ⟨g, cap, cur, rfl, h1, (hr g rfl).trans h2, h3⟩
  · obtain ⟨v, e, hs'⟩ := hv k p hp
    exact ⟨v, e, hs'.same hs hE⟩
theorem SecsO.mono {w : World} {E E' : Nat → Prop} {sv : Value} {S : List (List UInt8)} (h : SecsO w E sv S) (hE : ∀ k, E k → E' k) : SecsO w E' sv S := by
  obtain ⟨vs, ho, hv⟩ := h.own
  exact ⟨vs, ho, fun k p hp => by obtain ⟨v, e, hs⟩ := hv k p hp; exact ⟨v, e, hs.mono hE⟩⟩
theorem SecsO.push {w : World} {E : Nat → Prop} {sv : Value} {S : List (List UInt8)} (h : SecsO w E sv S) (bs : List UInt8) (v : Value) (hv : Sec w E v bs) (b : Nat) (h0 : w.cell? ⟨b, 0, none⟩ = some v) (hE : ∀ k, sv.ownBlock = some k → ¬ E k) (hr : S.length < 1000000) :
    ∃ v' w', (Builtin.append_ #[42, 42] 42 #[sv, .slice (some ⟨b, 0, none⟩) 1 1]).run Try.prog w = .ok v' w' ∧ SecsO w' E v' (S ++ [bs]) ∧ w.grownBy w' sv.ownBlock ∧ (v'.ownBlock = sv.ownBlock ∨ v'.ownBlock = some w.heap.size) := by
  obtain ⟨vs, ho, hs⟩ := h.own
  have hI : (Try.prog.info? 32).map (fun i => (i.zero, i.size, i.bytes)) = some (some (.slice none 0 0), 1, 24) := by kernel_rfl
  obtain ⟨i0, hi, hz0, hz1, hz2⟩ := info_parts hI
  obtain ⟨A, c, rfl, hsec⟩ := hv
  have hl : vs.length = S.length := by have := ho.1; omega
  have hcell : ∀ (j : Nat) (u : Value), [Value.slice A bs.length c][j]? = some u → w.cell? ((⟨b, 0, none⟩ : Addr).add j) = some u := fun j u hj => by
    have e2 : (⟨b, 0, none⟩ : Addr).add j = ⟨b, 0 + j, none⟩ := by unfold Addr.add; split <;> simp_all
    rw [e2, Nat.zero_add]
    rcases j with _ | j
    · cases hj; exact h0
    · simp at hj
  obtain ⟨v', w', hrun, h2, h3, _, h5⟩ := run_append_own_at (P := Try.prog) w 0 42 42 32 i0 (.slice none 0 0) 1 24 Try.underlying42 hi hz0 hz1 hz2 rfl (by decide) sv S.length _ ho ⟨b, 0, none⟩ 1 1 [.slice A bs.length c] (by simp) hcell
    (fun u hu => by rw [List.mem_singleton.1 hu]; rfl) (by unfold maxLen; omega) (by omega) (Nat.zero_le _)
  have hsame : ∀ k, E k → k < w.heap.size → w'.heap[k]? = w.heap[k]? := fun k hk hlt => h3.block k hlt (fun e => hE k e.symm hk)
  refine ⟨v', w', hrun, ⟨vs ++ [.slice A bs.length c], by rw [List.length_append, List.length_singleton]; exact h2, fun k q hq => ?_⟩, h3, h5⟩
  by_cases hk : k < S.length
  · rw [List.getElem?_append_left hk] at hq
    obtain ⟨u, e, hu⟩ := hs k q hq
    exact ⟨u, by rw [List.getElem?_append_left (by omega)]; exact e, hu.same h3.size hsame⟩
  · rw [List.getElem?_append_right (by omega)] at hq
    have hk0 : k - S.length = 0 := by
      have := (List.getElem?_eq_some_iff.1 hq).1
      simp at this; omega
    rw [hk0] at hq
    cases hq
    exact ⟨.slice A bs.length c, by rw [List.getElem?_append_right (by omega), hl, hk0]; rfl, Sec.same ⟨A, c, rfl, hsec⟩ h3.size hsame⟩
/-- .. and no more. -/
theorem SecsO.secs {w : World} {E : Nat → Prop} {sv : Value} {S : List (List UInt8)} (h : SecsO w E sv S) (h0 : 0 < S.length) : ∃ gs c, sv = .slice (some ⟨gs, 0, none⟩) S.length c ∧ S.length ≤ c ∧ c ≤ maxLen ∧ Secs w E gs S := by
  obtain ⟨vs, ho, hv⟩ := h.own
  rcases ho.2 with ⟨rfl, e⟩ | ⟨g, cap, cur, rfl, _, h1, h2, h3, h4, h5⟩
  · omega
  · refine ⟨g, cap, rfl, h2, h3, cur, h1, by omega, fun k b hb => ?_⟩
    obtain ⟨v, e, hs⟩ := hv k b hb
    refine ⟨v, ?_, hs⟩
    have hk := (List.getElem?_eq_some_iff.1 hb).1
    rw [← h5, List.getElem?_take_of_lt (by omega)] at e
    rw [← Array.getElem?_toList]; exact e
theorem SecsO.img {w : World} {E : Nat → Prop} {sv : Value} {S : List (List UInt8)} (h : SecsO w E sv S) : ∃ A c, sv = .slice A S.length c ∧ S.length ≤ c ∧ c ≤ maxLen ∧ Img w A S := by
  rcases Nat.eq_zero_or_pos S.length with h0 | h0
  · obtain ⟨A, c, e, h1, h2⟩ := h.shape
    refine ⟨A, c, e, h1, h2, ?_⟩
    rw [List.eq_nil_of_length_eq_zero h0]
    exact fun r bs hr => by simp at hr
  · obtain ⟨gs, c, e, h1, h2, h3⟩ := h.secs h0
    exact ⟨_, c, e, h1, h2, h3.img⟩

/-- Between the rounds of the reference's New. -/
structure RNew (w : World) (k : Nat) (wr : World) : Prop where
  ex : ∃ sv, SecsO wr (fun j => w.heap.size < j ∧ j < wr.heap.size ∧ sv.ownBlock ≠ some j) sv (List.replicate k zeros) ∧ Blk wr w.heap.size 46 #[sv, .slice none 0 0, .bool false, .int .i64 0, .int .i64 0] ∧ ∀ j, sv.ownBlock = some j → w.heap.size < j
  bel : Below w.heap.size w wr

set_option maxHeartbeats 1000000 in
theorem rnew_ok (n : Nat) (w : World) (hn : 16 ≤ n ∧ n ≤ 4096) : Calls Try.prog 13 #[.int .i64 (n : Int)] w fun e w' => ∃ g, e = .returned (.tuple #[.pointer (some ⟨g, 0, none⟩), .int .i64 0]) ∧ Ref w' (fun k => w.heap.size ≤ k ∧ k < w'.heap.size) g (newD n) ∧ Below w.heap.size w w' := by
  have HN := Lib.hid hn
  have h1 : (16 : Int) ≤ n := by omega
  have h2 : (n : Int) ≤ 4096 := by omega
  have h3 : decide ((n : Int) < 16) = false := by simp; omega
  have h4 : decide ((4096 : Int) < (n : Int)) = false := by simp; omega
  have HST : Hid (RNew w 0 (w.alloc (.cells #[.slice none 0 0, .slice none 0 0, .bool false, .int .i64 0, .int .i64 0] 46))) := Lib.hid ⟨⟨_, SecsO.nil _ _, Blk.new _ _ _, fun j hj => by cases hj⟩, (Below.refl _ _).alloc (Nat.le_refl _) _⟩
  clear hn
  go_enter Try.func13, Try.ntmps13
  go_wp2
  go_loopw [5] (fun i wr => ∃ k : Nat, k ≤ n ∧ i = .int .i64 (k : Int) ∧ Hid (RNew w k wr)) (fun i _ => n - (intOf i).toNat)
  case atStart => exact ⟨0, Nat.zero_le _, rfl, HST⟩
  case round =>
    obtain ⟨k, hk, rfl, hI⟩ := hrel
    clear HST
    by_cases hlt : k < n
    · have hd : decide ((k : Int) < (n : Int)) = true := by simpa using hlt
      obtain ⟨sv, hS, hB, hsv⟩ := hI.out.ex
      have c0 := hB.cell 0
      simp only [List.getElem?_toArray, List.getElem?_cons_zero] at c0
      have f0 := hB.frozen 0
      have hmk : ∀ W : World, (Instr.makeSlice 32 (.int .i64 256) (.int .i64 256)).run Try.prog W = .ok (.slice (some ⟨W.heap.size, 0, none⟩) 256 256) (W.alloc (.cells (mk8 256) 5)) := fun W => run_mk8 256 (by decide) W
      have hw0 : w.heap.size < wr.heap.size := hB.lt
      obtain ⟨wa, hwa⟩ : ∃ wa, ((wr.alloc (.cells (mk8 256) 5)).alloc (.cells #[.slice (some ⟨wr.heap.size, 0, none⟩) 256 256] 32)).drew = wa := ⟨_, rfl⟩
      have hbl : Below wr.heap.size wr wa := by rw [← hwa]; exact (((Below.refl _ _).alloc (Nat.le_refl _) _).alloc (by simp) _).drew
      have hsz : wa.heap.size = wr.heap.size + 2 := by rw [← hwa]; show ((wr.alloc _).alloc _).heap.size = _; simp
      have hb0 : Blk wa wr.heap.size 5 (row8 zeros) := by
        have e : row8 zeros = mk8 256 := by rw [mk8_eq]; unfold row8 zeros; rw [List.map_replicate]
        rw [e, ← hwa]; exact ((Blk.new _ _ _).alloc _).drew
      have hb1 : wa.cell? ⟨wr.heap.size + 1, 0, none⟩ = some (.slice (some ⟨wr.heap.size, 0, none⟩) 256 256) := by
        have := (Blk.new (wr.alloc (.cells (mk8 256) 5)) 32 #[.slice (some ⟨wr.heap.size, 0, none⟩) 256 256]).cell 0
        rw [World.size_alloc] at this
        rw [← hwa]; exact this
      have hsl := fun j hj => hS.lt j hj
      have hS1 : SecsO wa (fun j => w.heap.size < j ∧ j < wr.heap.size + 1 ∧ sv.ownBlock ≠ some j) sv (List.replicate k zeros) :=
        (hS.same hbl.size (fun j _ hj => hbl.block j hj) (fun j hj => hbl.block j (hsl j hj))).mono fun j hj => ⟨hj.1, by omega, hj.2.2⟩
      obtain ⟨sv', w2, hrun, hS2, hg2, ho2⟩ := hS1.push zeros _ (Sec.of_blk hb0 ⟨hw0, Nat.lt_succ_self _, fun e => by have := hsl _ e; omega⟩ (by rw [zeros_length]; decide) 256 zeros_length) (wr.heap.size + 1) hb1 (fun j hj => fun e => e.2.2 hj) (by rw [List.length_replicate]; omega)
      have hB2 : Blk w2 w.heap.size _ _ := (hB.below hbl hw0).grown hg2 (fun e => by have := hsv _ e.symm; omega)
      have hs2 := hg2.size
      have ho2' : sv'.ownBlock = sv.ownBlock ∨ sv'.ownBlock = some (wr.heap.size + 2) := by rw [← hsz]; exact ho2
      have hn1 : ∀ j, sv'.ownBlock = some j → w.heap.size < j := fun j hj => by
        rcases ho2' with h | h
        · exact hsv j (h ▸ hj)
        · rw [h] at hj; injection hj with hj; omega
      have HI2 : Hid (RNew w (k + 1) (w2.setCell ⟨w.heap.size, 0, none⟩ sv')) := Lib.hid ⟨⟨sv', by
        rw [List.replicate_succ']
        refine (hS2.same (by simp [World.setCell]) (fun j hj _ => Below.heap_setCell _ _ _ _ (by show j ≠ w.heap.size; omega)) (fun j hj => Below.heap_setCell _ _ _ _ (by have := hn1 j hj; show j ≠ w.heap.size; omega))).mono fun j hj => ⟨hj.1, by simp [World.setCell]; omega, fun e => ?_⟩
        rcases ho2' with h | h
        · exact hj.2.2 (h ▸ e)
        · rw [h] at e; injection e with e; omega, by
        have h6 := hB2.set_ 0 sv'
        simp only [List.setIfInBounds_toArray, List.set_cons_zero] at h6
        exact h6, hn1⟩, ((hI.out.bel.trans (hbl.mono (Nat.le_of_lt hw0))).grown hg2 (by omega) (fun j hj => by have := hsv j hj; omega)).setCell (p := ⟨w.heap.size, 0, none⟩) (Nat.le_refl _) _⟩
      have c20 := hB2.cell 0
      simp only [List.getElem?_toArray, List.getElem?_cons_zero] at c20
      have f20 := hB2.frozen 0
      obtain ⟨A', c', ev, _, _⟩ := hS2.shape
      rw [show (List.replicate k zeros ++ [zeros]).length = k + 1 by simp] at ev
      subst ev
      have HRUN := Lib.hid hrun
      clear hS hB hsv hbl hsz hb0 hb1 hsl hS1 hrun hS2 hg2 ho2 hB2 hs2 ho2' hn1
      subst hwa
      go_wp2
      go_region_law (refine step_app rfl (.tmp 23) (.tmp 25) 42 rfl _ _ _ _ (by simp [Act.eval]) (by simp [Act.eval]) HRUN.out ?_)
      all_goals
        go_wp2
        go_roundw
        case rel => exact ⟨k + 1, by omega, by go_num, HI2⟩
        case measure => simp [intOf]; omega
    · obtain rfl : k = n := by omega
      have hd : decide ((k : Int) < (k : Int)) = false := by simp
      obtain ⟨sv, hS, hB, hsv⟩ := hI.out.ex
      have hl : (newD k).S.length = k := by simp [newD]
      obtain ⟨gs, c, rfl, hc1, hc2, hS2⟩ := hS.secs (by rw [List.length_replicate]; omega)
      rw [List.length_replicate] at hB hc1
      have hlt := hS2.lt
      have hgs := hsv gs rfl
      have HB := Lib.hid hI.out.bel
      have HR : Hid (Ref wr (fun j => w.heap.size ≤ j ∧ j < wr.heap.size) w.heap.size (newD k)) := Lib.hid ⟨fun j => w.heap.size < j ∧ j < wr.heap.size ∧ gs ≠ j, gs, c, .slice none 0 0,
        ⟨newD_ok k HN.out, by rw [hl]; exact hc1, by rw [hl]; exact hB, hS2.mono (fun j hj => ⟨hj.1, hj.2.1, fun e => hj.2.2 (by rw [← e]; rfl)⟩), Pend.nil _ _ _, by omega, by omega, (fun j hj => by cases hj), by omega⟩,
        (fun j hj => ⟨by omega, hj.2.1⟩), (fun j hj => by
          rcases hj with rfl | rfl | hj
          · exact ⟨Nat.le_refl _, hB.lt⟩
          · exact ⟨by omega, hlt⟩
          · cases hj), fun j hj => hj.2⟩
      clear hS hB hsv hS2 hI hl
      go_wp2
      go_ret2
      exact ⟨w.heap.size, rfl, HR.out, HB.out⟩

end Go.Proofs.Ytdohfkblmadejaa
